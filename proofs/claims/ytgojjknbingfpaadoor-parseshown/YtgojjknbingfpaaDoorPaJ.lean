/- What 'inner, atom' of the program's parser answers. -/
import Derived.Test.YtgojjknbingfpaaDoorPaI
namespace Go.Em6
theorem Four.held {w : World} {g : Nat} {v0 v1 v2 v3 : Value} (h : Four w g v0 v1 v2 v3) : w.cell? ⟨g, 0, none⟩ = some v0 ∧ w.cell? ⟨g, 1, none⟩ = some v1 ∧ w.cell? ⟨g, 2, none⟩ = some v2 ∧ w.cell? ⟨g, 3, none⟩ = some v3 := ⟨h.c0, h.c1, h.c2, h.c3⟩
end Go.Em6
namespace Go.Proofs.YtgojjknbingfpaaDoor
open Go.RowKit Go.Em5 Go.Em6
set_option linter.unusedSimpArgs false

theorem peek_ok {s : St} {t : Em4.Tok} (h : peekS s = t) (hk : t.kind ≠ 0) : ∃ r, s = .ok (t :: r) := by
  subst h
  cases s with
  | error e => exact absurd rfl hk
  | ok L => cases L with
    | nil => exact absurd rfl hk
    | cons t r => exact ⟨r, rfl⟩
theorem opA_cases (t : Em4.Tok) : opA t = [] ∨ (opA t = [105, 110, 116] ∧ t.kind = 2) ∨ (opA t = [115, 116, 114] ∧ t.kind = 3) ∨ (opA t = [118, 97, 114] ∧ t.kind = 1) ∨ (opA t = [98, 111, 111, 108] ∧ t.kind = 4 ∧ t.text = [116, 114, 117, 101]) ∨ (opA t = [98, 111, 111, 108] ∧ t.kind = 4 ∧ t.text = [102, 97, 108, 115, 101]) ∨ (opA t = [103, 101, 116] ∧ t.kind = 4 ∧ t.text = [33]) ∨ (opA t = [117, 110, 105, 116] ∧ t.kind = 4 ∧ t.text = [40]) ∨ (opA t = [110, 105, 108] ∧ t.kind = 4 ∧ t.text = [91]) := by
  by_cases h2 : t.kind = 2
  · right; left; exact ⟨by simp [opA, h2], h2⟩
  by_cases h3 : t.kind = 3
  · right; right; left; exact ⟨by simp [opA, h3], h3⟩
  by_cases h1 : t.kind = 1
  · right; right; right; left; exact ⟨by simp [opA, h1], h1⟩
  by_cases h4 : t.kind = 4
  · by_cases e1 : t.text = [116, 114, 117, 101]
    · right; right; right; right; left; exact ⟨by simp [opA, h4, e1], h4, e1⟩
    by_cases e2 : t.text = [102, 97, 108, 115, 101]
    · right; right; right; right; right; left; exact ⟨by simp [opA, h4, e2], h4, e2⟩
    by_cases e3 : t.text = [33]
    · right; right; right; right; right; right; left; exact ⟨by simp [opA, h4, e3], h4, e3⟩
    by_cases e4 : t.text = [40]
    · right; right; right; right; right; right; right; left; exact ⟨by simp [opA, h4, e4], h4, e4⟩
    by_cases e5 : t.text = [91]
    · right; right; right; right; right; right; right; right; exact ⟨by simp [opA, h4, e5], h4, e5⟩
    left
    simp [opA, h4, e1, e2, e3, e4, e5]
  · left
    simp [opA, h2, h3, h1, h4]
theorem atom_none {w : World} {pb tb d : Nat} {s : St} (h : IsPr w pb tb d s) (E A : List Em4.Tok → R) (ho : opA (peekS s) = []) : Fits (thn s (atomS E A)) (.mk [] [] [] 0 0 []) (failS 2 s) := by
  cases s with
  | error e => rfl
  | ok L => cases L with
    | nil => rfl
    | cons t r =>
      have hk := h.kok.1
      have ho : opA t = [] := ho
      show Fits (atomS E A (t :: r)) _ _
      have n2 : ¬ t.kind = 2 := fun h => by simp [opA, h] at ho
      have n3 : ¬ t.kind = 3 := fun h => by simp [opA, h] at ho
      have n1 : ¬ t.kind = 1 := fun h => by simp [opA, h] at ho
      have e : atomS E A (t :: r) = .error (2, t.pos) := by
        by_cases h4 : t.kind = 4
        · have m1 : ¬ t.text = [116, 114, 117, 101] := fun h => by simp [opA, h4, h] at ho
          have m2 : ¬ t.text = [102, 97, 108, 115, 101] := fun h => by simp [opA, h4, h] at ho
          have m3 : ¬ t.text = [33] := fun h => by simp [opA, h4, h] at ho
          have m4 : ¬ t.text = [40] := fun h => by simp [opA, h4, h] at ho
          have m5 : ¬ t.text = [91] := fun h => by simp [opA, h4, h] at ho
          simp [atomS, isW, n1, n2, n3, h4, m1, m2, m3, m4, m5]
        · simp [atomS, isW, n1, n2, n3, h4]
      rw [e]
      rfl
set_option maxRecDepth 100000 in
set_option maxHeartbeats 4000000 in
theorem qinner_does (d : Nat) (X : List Em4.Tok → R) (hX : DoesP 16 (d + 1) X) (hd : d < 40) : DoesP 55 d (deeperF d X) := by
  intro s w pb tb h
  have HH : Hid (IsPs w pb tb d s) := h
  have HX : Hid (DoesP 16 (d + 1) X) := hX
  obtain ⟨hlp, hlt, hne, -⟩ := h.lt
  have hmf := mkf
  have z4 := Six.made w (.string ⟨#[]⟩) (.string ⟨#[]⟩) (.string ⟨#[]⟩) (.int .i64 0) (.int .i64 0) (.slice none 0 0) 24
  clear h hX
  go_enter Tryd.func55, Tryd.ntmps55
  go_wp2_with fail
  refine (qdeeper_any 16 d X HX.out (fun _ _ => rfl) hd _ pb tb s (HH.out.alloc _)).mono ?_
  rintro e w1 ⟨v1, n1, s1, rfl, d1, h1, b1, F1⟩
  obtain ⟨x0, x1, x2, xm, xp, xa, xl, xc, rfl⟩ := ndb_shape d1
  have p4 := z4.bes b1 (by omega)
  have bs1 : Bes pb w w1 := ((Bes.refl pb w).alloc _).trans b1
  have HF : Hid (Fits (thn s (deeperF d X)) n1 s1) := F1
  have d1a : NdB (w.heap.size + 1) w1 n1 (.agg #[.string x0, .string x1, .string x2, .int .i64 xm, .int .i64 xp, .slice xa xl xc]) := by simpa using d1
  obtain ⟨a0, a1, a2, a3, a4, a5, f0, f1, f2, f3, f4, f5⟩ := id p4
  obtain ⟨W, hW, sx, hz, hk, hbb⟩ := p4.set (.string x0) (.string x1) (.string x2) (.int .i64 xm) (.int .i64 xp) (.slice xa xl xc)
  clear F1 b1 d1
  go_wp2_with fail
  obtain ⟨c0, c1, c2, c3, c4, c5, -⟩ := id sx
  refine bodyPost_ret (v := .agg #[.string x0, .string x1, .string x2, .int .i64 xm, .int .i64 xp, .slice xa xl xc]) (by simp [results, Tryd.results55, go_sem, c0, c1, c2, c3, c4, c5]) rfl ?_
  exact ⟨_, n1, s1, rfl, ndb_mono (ndb_set d1a (by omega) hz hk) (by omega), h1.set hz hk (by omega) (by omega), hbb pb w bs1 (Nat.le_refl _), HF.out⟩
set_option maxRecDepth 100000 in
set_option maxHeartbeats 4000000 in
theorem qatom_does (d : Nat) (E A : List Em4.Tok → R) (hE : d < 40 → DoesP 55 d E) (hA : d < 40 → ∀ (w : World) (pb tb : Nat) (s : St), IsPs w pb tb d s → Calls Tryd.prog 75 #[PP pb, MV 91 pb] w (PostP A pb tb d s w)) : DoesP 91 d (atomS E A) := by
  intro s w pb tb h
  have HH : Hid (IsPs w pb tb d s) := h
  have HE : Hid (d < 40 → DoesP 55 d E) := hE
  have HA : Hid (d < 40 → ∀ (w : World) (pb tb : Nat) (s : St), IsPs w pb tb d s → Calls Tryd.prog 75 #[PP pb, MV 91 pb] w (PostP A pb tb d s w)) := hA
  obtain ⟨hlp, hlt, hne, -⟩ := h.lt
  have hmf := mkf
  have z4 := Six.made w (.string ⟨#[]⟩) (.string ⟨#[]⟩) (.string ⟨#[]⟩) (.int .i64 0) (.int .i64 0) (.slice none 0 0) 24
  have htk := h.1.now
  obtain ⟨t, htd⟩ : ∃ t, t = peekS s := ⟨_, rfl⟩
  have HT : Hid (peekS s = t) := htd.symm
  rw [← htd] at htk
  clear h hE hA htd
  go_enter Tryd.func91, Tryd.ntmps91
  go_wp2_with fail
  refine (qpeek_any pb tb d s _ (HH.out.alloc _).1).mono ?_
  rintro e w1 ⟨rfl, hb1⟩
  rw [HT.out]
  simp only [Em6.tokV]
  have h1 := (HH.out.alloc _).below hb1
  have p4 := z4.below hb1
  have bs1 : Bes pb w w1 := ((Bes.refl pb w).alloc _).trans (Bes.of hb1)
  have z6 := Four.made w1 (.int .i64 t.kind) (.string (Em.str t.text)) (.int .i64 t.num) (.int .i64 t.pos) 46
  have h1a := h1.alloc (.cells #[.int .i64 t.kind, .string (Em.str t.text), .int .i64 t.num, .int .i64 t.pos] 46)
  have p4a := p4.alloc (.cells #[.int .i64 t.kind, .string (Em.str t.text), .int .i64 t.num, .int .i64 t.pos] 46)
  have bs1a := bs1.alloc (.cells #[.int .i64 t.kind, .string (Em.str t.text), .int .i64 t.num, .int .i64 t.pos] 46)
  have g4 := p4.lt
  clear hb1 h1 p4 bs1 z4
  go_wp2_with fail
  have z6d := z6.drew
  have h1d := h1a.drew
  have p4d := p4a.drew
  have bs1d := bs1a.drew
  have g6 := z6.lt
  have z5 := Six.made (w1.alloc (.cells #[.int .i64 t.kind, .string (Em.str t.text), .int .i64 t.num, .int .i64 t.pos] 46)) (.string ⟨#[]⟩) (.string ⟨#[]⟩) (.string ⟨#[]⟩) (.int .i64 0) (.int .i64 0) (.slice none 0 0) 24
  simp only [World.size_alloc] at z5
  have z5d := z5.drew
  have z6e := (z6.alloc (.cells #[.string ⟨#[]⟩, .string ⟨#[]⟩, .string ⟨#[]⟩, .int .i64 0, .int .i64 0, .slice none 0 0] 24)).drew
  have h1e := (h1a.alloc (.cells #[.string ⟨#[]⟩, .string ⟨#[]⟩, .string ⟨#[]⟩, .int .i64 0, .int .i64 0, .slice none 0 0] 24)).drew
  have p4e := (p4a.alloc (.cells #[.string ⟨#[]⟩, .string ⟨#[]⟩, .string ⟨#[]⟩, .int .i64 0, .int .i64 0, .slice none 0 0] 24)).drew
  have bs1e := (bs1a.alloc (.cells #[.string ⟨#[]⟩, .string ⟨#[]⟩, .string ⟨#[]⟩, .int .i64 0, .int .i64 0, .slice none 0 0] 24)).drew
  obtain ⟨oa, hoad⟩ : ∃ o, o = opA t := ⟨_, rfl⟩
  have hoaD : Hid (oa = opA t) := hoad
  have HTK : Hid (TokOk t) := htk
  have hpos : t.pos ≤ 140737488351232 := htk.2.2.1
  clear h1a p4a bs1a hoad htk
  go_region_held (fun w' => w'.cell? ⟨w1.heap.size, 0, none⟩ = some (.int .i64 t.kind) ∧ w'.cell? ⟨w1.heap.size, 1, none⟩ = some (.string (Em.str t.text)) ∧ w'.cell? ⟨w1.heap.size, 2, none⟩ = some (.int .i64 t.num) ∧ w'.cell? ⟨w1.heap.size, 3, none⟩ = some (.int .i64 t.pos))
    (with_reducible (first | exact z6w.held | exact z63.held | exact (z63.alloc _).held | exact z6e.held | exact z6d.held))
    (first | (go_at_call 92; refine (qop_any t _ HTK.out).mono ?_; rintro e w3 ⟨rfl, hb3⟩; rw [← hoaD.out]; have h3 : IsPs w3 pb tb d s := (by with_reducible (first | exact h1d.below hb3 | exact h1e.below hb3)); have z63 : Four w3 w1.heap.size _ _ _ _ := (by with_reducible (first | exact z6d.below hb3 | exact z6e.below hb3)); have p43 : Six w3 w.heap.size _ _ _ _ _ _ := (by with_reducible (first | exact p4d.below hb3 | exact p4e.below hb3)); have bs3 : Bes pb w w3 := (by with_reducible (first | exact bs1d.trans (Bes.of hb3) | exact bs1e.trans (Bes.of hb3))); have g3 := z63.lt; (first | (have p53 : Six w3 (w1.heap.size + 1) _ _ _ _ _ _ := (by with_reducible exact z5d.below hb3); have gg3 := p53.lt; obtain ⟨a0, a1, a2, a3, a4, a5, ff0, ff1, ff2, ff3, ff4, ff5⟩ := id p53; obtain ⟨W, hW, sx, hz, hk, hbb⟩ := p53.set (.string (Em.str oa)) (.string ⟨#[]⟩) (.string ⟨#[]⟩) (.int .i64 0) (.int .i64 t.pos) (.slice none 0 0); have z6w := z63.far (hk _ (by omega))) | skip); clear hb3))
  all_goals
    (first
      | (have sN := id sx; have hN := h3.set hz hk (by omega) (by omega); have pN := p43.far hk (by omega); have zN := id z6w; have bsN := hbb pb w bs3 (by omega); clear hbb hk hz hW sx p53 a0 a1 a2 a3 a4 a5 ff0 ff1 ff2 ff3 ff4 ff5)
      | (have sN := Six.made w3 (.string (Em.str oa)) (.string ⟨#[]⟩) (.string ⟨#[]⟩) (.int .i64 0) (.int .i64 t.pos) (.slice none 0 0) 24; have hN := h3.alloc (.cells #[.string (Em.str oa), .string ⟨#[]⟩, .string ⟨#[]⟩, .int .i64 0, .int .i64 t.pos, .slice none 0 0] 24); have pN := p43.alloc (.cells #[.string (Em.str oa), .string ⟨#[]⟩, .string ⟨#[]⟩, .int .i64 0, .int .i64 t.pos, .slice none 0 0] 24); have zN := z63.alloc (.cells #[.string (Em.str oa), .string ⟨#[]⟩, .string ⟨#[]⟩, .int .i64 0, .int .i64 t.pos, .slice none 0 0] 24); have bsN := bs3.alloc (.cells #[.string (Em.str oa), .string ⟨#[]⟩, .string ⟨#[]⟩, .int .i64 0, .int .i64 t.pos, .slice none 0 0] 24)))
    have gN := sN.lt
    clear h3 z63 p43 bs3 z5d z6d h1d p4d bs1d z5 z6 z6e h1e p4e bs1e
    have hcs := opA_cases t
    rw [← hoaD.out] at hcs
    rcases hcs with hoa | ⟨hoa, hk2⟩ | ⟨hoa, hk2⟩ | ⟨hoa, hk2⟩ | ⟨hoa, hk2, htt⟩ | ⟨hoa, hk2, htt⟩ | ⟨hoa, hk2, htt⟩ | ⟨hoa, hk2, htt⟩ | ⟨hoa, hk2, htt⟩
    · have q0 : ((Em.str oa).toList == []) = true := by rw [hoa]; exact (Em5.str_eq (by decide) _).trans (by decide)
      have HFN : Hid (Fits (thn s (atomS E A)) (.mk [] [] [] 0 0 []) (failS 2 s)) := atom_none HH.out.1 E A (by rw [HT.out, ← hoaD.out]; exact hoa)
      clear hoa
      obtain ⟨c0, c1, c2, c3, c4, c5, fz0, fz1, fz2, fz3, fz4, fz5⟩ := id sN
      go_wp2_with fail
      refine (qfail_any pb tb d s _ 2 hN (by omega) (by omega)).mono ?_
      rintro e w5 ⟨rfl, h5, b5⟩
      have u4 := pN.bes b5 (by omega)
      have bs5 := bsN.trans b5
      have g5 := u4.lt
      obtain ⟨a0, a1, a2, a3, a4, a5, ff0, ff1, ff2, ff3, ff4, ff5⟩ := id u4
      obtain ⟨W6, hW6, sy, hzy, hky, hby⟩ := u4.set (.string ⟨#[]⟩) (.string ⟨#[]⟩) (.string ⟨#[]⟩) (.int .i64 0) (.int .i64 0) (.slice none 0 0)
      clear hN sN pN zN bsN b5 c0 c1 c2 c3 c4 c5
      go_wp2_with fail
      obtain ⟨c0, c1, c2, c3, c4, c5, -⟩ := id sy
      refine bodyPost_ret (v := .agg #[.string ⟨#[]⟩, .string ⟨#[]⟩, .string ⟨#[]⟩, .int .i64 0, .int .i64 0, .slice none 0 0]) (by simp [results, Tryd.results91, go_sem, c0, c1, c2, c3, c4, c5]) rfl ?_
      exact ⟨_, .mk [] [] [] 0 0 [], failS 2 s, rfl, isNdP_leaf txt_nil txt_nil txt_nil i64_zero i64_zero, h5.set hzy hky (by omega) (by omega), hby pb w bs5 (by omega), HFN.out⟩
    · have q0 : ((Em.str oa).toList == []) = false := by rw [hoa]; exact (Em5.str_eq (by decide) _).trans (by decide)
      have q1 : ((Em.str oa).toList == [105, 110, 116]) = true := by rw [hoa]; exact (Em5.str_eq (by decide) _).trans (by decide)
      obtain ⟨r, rfl⟩ := peek_ok HT.out (by rw [hk2]; decide)
      have HK : Hid (t.kind ≠ 5) := by rw [Hid, hk2]; decide
      have HK2 : Hid (t.kind = 2) := hk2
      have HTX : Hid (Txt oa) := by rw [Hid, hoa]; exact ⟨by decide, by decide⟩
      have HOA : Hid (oa = [105, 110, 116]) := hoa
      clear hoa hk2
      obtain ⟨nc0, -⟩ := id sN
      go_wp2_with fail
      refine (qnext_any pb tb d t r _ hN HK.out).mono ?_
      rintro e w5 ⟨rfl, h5, b5⟩
      have u5 := sN.bes b5 (by omega)
      have u4 := pN.bes b5 (by omega)
      have u6 := zN.bes b5 (by omega)
      have bs5 := bsN.trans b5
      have g5 := u5.lt
      have g7 := u6.lt
      clear hN sN pN zN bsN b5 nc0
      obtain ⟨c0, c1, c2, c3, c4, c5, fz0, fz1, fz2, fz3, fz4, fz5⟩ := id u5
      obtain ⟨tc0, tc1, tc2, tc3, -⟩ := id u6
      obtain ⟨W, hW, sx, hz, hk, hbb⟩ := u5.set3 (.int .i64 t.num)
      have u4w := u4.far hk (by omega)
      have bsw := hbb pb w bs5 (by omega)
      have h5w := h5.set hz hk (by omega) (by omega)
      obtain ⟨sc0, sc1, sc2, sc3, sc4, sc5, -⟩ := id sx
      obtain ⟨a0, a1, a2, a3, a4, a5, ff0, ff1, ff2, ff3, ff4, ff5⟩ := id u4w
      obtain ⟨W6, hW6, sy, hzy, hky, hby⟩ := u4w.set (.string (Em.str oa)) (.string ⟨#[]⟩) (.string ⟨#[]⟩) (.int .i64 t.num) (.int .i64 t.pos) (.slice none 0 0)
      go_wp2_with fail
      obtain ⟨c0, c1, c2, c3, c4, c5, -⟩ := id sy
      refine bodyPost_ret (v := .agg #[.string (Em.str oa), .string ⟨#[]⟩, .string ⟨#[]⟩, .int .i64 t.num, .int .i64 t.pos, .slice none 0 0]) (by simp [results, Tryd.results91, go_sem, c0, c1, c2, c3, c4, c5]) rfl ?_
      refine ⟨_, .mk oa [] [] t.num t.pos [], .ok r, rfl, isNdP_leaf HTX.out txt_nil txt_nil HTK.out.2.1 (i64_pos hpos), h5w.set hzy hky (by omega) (by omega), hby pb w bsw (by omega), ?_⟩
      show Fits (atomS E A (t :: r)) _ _
      have e : atomS E A (t :: r) = .ok (.mk [105, 110, 116] [] [] t.num t.pos [], r) := by simp [atomS, HK2.out]
      rw [e, HOA.out]
      exact ⟨rfl, rfl⟩
    · have q0 : ((Em.str oa).toList == []) = false := by rw [hoa]; exact (Em5.str_eq (by decide) _).trans (by decide)
      have q1 : ((Em.str oa).toList == [105, 110, 116]) = false := by rw [hoa]; exact (Em5.str_eq (by decide) _).trans (by decide)
      have q2 : ((Em.str oa).toList == [98, 111, 111, 108]) = false := by rw [hoa]; exact (Em5.str_eq (by decide) _).trans (by decide)
      have q3 : ((Em.str oa).toList == [115, 116, 114]) = true := by rw [hoa]; exact (Em5.str_eq (by decide) _).trans (by decide)
      obtain ⟨r, rfl⟩ := peek_ok HT.out (by rw [hk2]; decide)
      have HK : Hid (t.kind ≠ 5) := by rw [Hid, hk2]; decide
      have HK2 : Hid (t.kind = 3) := hk2
      have HTX : Hid (Txt oa) := by rw [Hid, hoa]; exact ⟨by decide, by decide⟩
      have HOA : Hid (oa = [115, 116, 114]) := hoa
      clear hoa hk2
      obtain ⟨nc0, -⟩ := id sN
      go_wp2_with fail
      refine (qnext_any pb tb d t r _ hN HK.out).mono ?_
      rintro e w5 ⟨rfl, h5, b5⟩
      have u5 := sN.bes b5 (by omega)
      have u4 := pN.bes b5 (by omega)
      have u6 := zN.bes b5 (by omega)
      have bs5 := bsN.trans b5
      have g5 := u5.lt
      have g7 := u6.lt
      clear hN sN pN zN bsN b5 nc0
      obtain ⟨c0, c1, c2, c3, c4, c5, fz0, fz1, fz2, fz3, fz4, fz5⟩ := id u5
      obtain ⟨tc0, tc1, tc2, tc3, -⟩ := id u6
      obtain ⟨W, hW, sx, hz, hk, hbb⟩ := u5.set1 (.string (Em.str t.text))
      have u4w := u4.far hk (by omega)
      have bsw := hbb pb w bs5 (by omega)
      have h5w := h5.set hz hk (by omega) (by omega)
      obtain ⟨sc0, sc1, sc2, sc3, sc4, sc5, -⟩ := id sx
      obtain ⟨a0, a1, a2, a3, a4, a5, ff0, ff1, ff2, ff3, ff4, ff5⟩ := id u4w
      obtain ⟨W6, hW6, sy, hzy, hky, hby⟩ := u4w.set (.string (Em.str oa)) (.string (Em.str t.text)) (.string ⟨#[]⟩) (.int .i64 0) (.int .i64 t.pos) (.slice none 0 0)
      go_wp2_with fail
      obtain ⟨c0, c1, c2, c3, c4, c5, -⟩ := id sy
      refine bodyPost_ret (v := .agg #[.string (Em.str oa), .string (Em.str t.text), .string ⟨#[]⟩, .int .i64 0, .int .i64 t.pos, .slice none 0 0]) (by simp [results, Tryd.results91, go_sem, c0, c1, c2, c3, c4, c5]) rfl ?_
      refine ⟨_, .mk oa t.text [] 0 t.pos [], .ok r, rfl, isNdP_leaf HTX.out HTK.out.1 txt_nil i64_zero (i64_pos hpos), h5w.set hzy hky (by omega) (by omega), hby pb w bsw (by omega), ?_⟩
      show Fits (atomS E A (t :: r)) _ _
      have e : atomS E A (t :: r) = .ok (.mk [115, 116, 114] t.text [] 0 t.pos [], r) := by simp [atomS, HK2.out]
      rw [e, HOA.out]
      exact ⟨rfl, rfl⟩
    · have q0 : ((Em.str oa).toList == []) = false := by rw [hoa]; exact (Em5.str_eq (by decide) _).trans (by decide)
      have q1 : ((Em.str oa).toList == [105, 110, 116]) = false := by rw [hoa]; exact (Em5.str_eq (by decide) _).trans (by decide)
      have q2 : ((Em.str oa).toList == [98, 111, 111, 108]) = false := by rw [hoa]; exact (Em5.str_eq (by decide) _).trans (by decide)
      have q3 : ((Em.str oa).toList == [115, 116, 114]) = false := by rw [hoa]; exact (Em5.str_eq (by decide) _).trans (by decide)
      have q4 : ((Em.str oa).toList == [118, 97, 114]) = true := by rw [hoa]; exact (Em5.str_eq (by decide) _).trans (by decide)
      obtain ⟨r, rfl⟩ := peek_ok HT.out (by rw [hk2]; decide)
      have HK : Hid (t.kind ≠ 5) := by rw [Hid, hk2]; decide
      have HK2 : Hid (t.kind = 1) := hk2
      have HTX : Hid (Txt oa) := by rw [Hid, hoa]; exact ⟨by decide, by decide⟩
      have HOA : Hid (oa = [118, 97, 114]) := hoa
      clear hoa hk2
      obtain ⟨nc0, -⟩ := id sN
      go_wp2_with fail
      refine (qnext_any pb tb d t r _ hN HK.out).mono ?_
      rintro e w5 ⟨rfl, h5, b5⟩
      have u5 := sN.bes b5 (by omega)
      have u4 := pN.bes b5 (by omega)
      have u6 := zN.bes b5 (by omega)
      have bs5 := bsN.trans b5
      have g5 := u5.lt
      have g7 := u6.lt
      clear hN sN pN zN bsN b5 nc0
      obtain ⟨c0, c1, c2, c3, c4, c5, fz0, fz1, fz2, fz3, fz4, fz5⟩ := id u5
      obtain ⟨tc0, tc1, tc2, tc3, -⟩ := id u6
      obtain ⟨W, hW, sx, hz, hk, hbb⟩ := u5.set1 (.string (Em.str t.text))
      have u4w := u4.far hk (by omega)
      have bsw := hbb pb w bs5 (by omega)
      have h5w := h5.set hz hk (by omega) (by omega)
      obtain ⟨sc0, sc1, sc2, sc3, sc4, sc5, -⟩ := id sx
      obtain ⟨a0, a1, a2, a3, a4, a5, ff0, ff1, ff2, ff3, ff4, ff5⟩ := id u4w
      obtain ⟨W6, hW6, sy, hzy, hky, hby⟩ := u4w.set (.string (Em.str oa)) (.string (Em.str t.text)) (.string ⟨#[]⟩) (.int .i64 0) (.int .i64 t.pos) (.slice none 0 0)
      go_wp2_with fail
      obtain ⟨c0, c1, c2, c3, c4, c5, -⟩ := id sy
      refine bodyPost_ret (v := .agg #[.string (Em.str oa), .string (Em.str t.text), .string ⟨#[]⟩, .int .i64 0, .int .i64 t.pos, .slice none 0 0]) (by simp [results, Tryd.results91, go_sem, c0, c1, c2, c3, c4, c5]) rfl ?_
      refine ⟨_, .mk oa t.text [] 0 t.pos [], .ok r, rfl, isNdP_leaf HTX.out HTK.out.1 txt_nil i64_zero (i64_pos hpos), h5w.set hzy hky (by omega) (by omega), hby pb w bsw (by omega), ?_⟩
      show Fits (atomS E A (t :: r)) _ _
      have e : atomS E A (t :: r) = .ok (.mk [118, 97, 114] t.text [] 0 t.pos [], r) := by simp [atomS, HK2.out]
      rw [e, HOA.out]
      exact ⟨rfl, rfl⟩
    · have q0 : ((Em.str oa).toList == []) = false := by rw [hoa]; exact (Em5.str_eq (by decide) _).trans (by decide)
      have q1 : ((Em.str oa).toList == [105, 110, 116]) = false := by rw [hoa]; exact (Em5.str_eq (by decide) _).trans (by decide)
      have q2 : ((Em.str oa).toList == [98, 111, 111, 108]) = true := by rw [hoa]; exact (Em5.str_eq (by decide) _).trans (by decide)
      obtain ⟨r, rfl⟩ := peek_ok HT.out (by rw [hk2]; decide)
      have HK : Hid (t.kind ≠ 5) := by rw [Hid, hk2]; decide
      have HK2 : Hid (t.kind = 4 ∧ t.text = [116, 114, 117, 101]) := ⟨hk2, htt⟩
      have qt : ((Em.str t.text).toList == [116, 114, 117, 101]) = true := by rw [htt]; exact (Em5.str_eq (by decide) _).trans (by decide)
      have HTX : Hid (Txt oa) := by rw [Hid, hoa]; exact ⟨by decide, by decide⟩
      have HOA : Hid (oa = [98, 111, 111, 108]) := hoa
      clear hoa hk2 htt
      obtain ⟨nc0, -⟩ := id sN
      go_wp2_with fail
      refine (qnext_any pb tb d t r _ hN HK.out).mono ?_
      rintro e w5 ⟨rfl, h5, b5⟩
      have u5 := sN.bes b5 (by omega)
      have u4 := pN.bes b5 (by omega)
      have u6 := zN.bes b5 (by omega)
      have bs5 := bsN.trans b5
      have g5 := u5.lt
      have g7 := u6.lt
      clear hN sN pN zN bsN b5 nc0
      obtain ⟨c0, c1, c2, c3, c4, c5, fz0, fz1, fz2, fz3, fz4, fz5⟩ := id u5
      obtain ⟨tc0, tc1, tc2, tc3, -⟩ := id u6
      obtain ⟨W, hW, sx, hz, hk, hbb⟩ := u5.set3 (.int .i64 1)
      have u4w := u4.far hk (by omega)
      have bsw := hbb pb w bs5 (by omega)
      have h5w := h5.set hz hk (by omega) (by omega)
      obtain ⟨sc0, sc1, sc2, sc3, sc4, sc5, -⟩ := id sx
      obtain ⟨a0, a1, a2, a3, a4, a5, ff0, ff1, ff2, ff3, ff4, ff5⟩ := id u4w
      obtain ⟨W6, hW6, sy, hzy, hky, hby⟩ := u4w.set (.string (Em.str oa)) (.string ⟨#[]⟩) (.string ⟨#[]⟩) (.int .i64 1) (.int .i64 t.pos) (.slice none 0 0)
      go_wp2_with fail
      obtain ⟨c0, c1, c2, c3, c4, c5, -⟩ := id sy
      refine bodyPost_ret (v := .agg #[.string (Em.str oa), .string ⟨#[]⟩, .string ⟨#[]⟩, .int .i64 1, .int .i64 t.pos, .slice none 0 0]) (by simp [results, Tryd.results91, go_sem, c0, c1, c2, c3, c4, c5]) rfl ?_
      refine ⟨_, .mk oa [] [] 1 t.pos [], .ok r, rfl, isNdP_leaf HTX.out txt_nil txt_nil ⟨by decide, by decide⟩ (i64_pos hpos), h5w.set hzy hky (by omega) (by omega), hby pb w bsw (by omega), ?_⟩
      show Fits (atomS E A (t :: r)) _ _
      have e : atomS E A (t :: r) = .ok (.mk [98, 111, 111, 108] [] [] 1 t.pos [], r) := by simp [atomS, isW, HK2.out.1, HK2.out.2]
      rw [e, HOA.out]
      exact ⟨rfl, rfl⟩
    · have q0 : ((Em.str oa).toList == []) = false := by rw [hoa]; exact (Em5.str_eq (by decide) _).trans (by decide)
      have q1 : ((Em.str oa).toList == [105, 110, 116]) = false := by rw [hoa]; exact (Em5.str_eq (by decide) _).trans (by decide)
      have q2 : ((Em.str oa).toList == [98, 111, 111, 108]) = true := by rw [hoa]; exact (Em5.str_eq (by decide) _).trans (by decide)
      obtain ⟨r, rfl⟩ := peek_ok HT.out (by rw [hk2]; decide)
      have HK : Hid (t.kind ≠ 5) := by rw [Hid, hk2]; decide
      have HK2 : Hid (t.kind = 4 ∧ t.text = [102, 97, 108, 115, 101]) := ⟨hk2, htt⟩
      have qt : ((Em.str t.text).toList == [116, 114, 117, 101]) = false := by rw [htt]; exact (Em5.str_eq (by decide) _).trans (by decide)
      have HTX : Hid (Txt oa) := by rw [Hid, hoa]; exact ⟨by decide, by decide⟩
      have HOA : Hid (oa = [98, 111, 111, 108]) := hoa
      clear hoa hk2 htt
      obtain ⟨nc0, -⟩ := id sN
      go_wp2_with fail
      refine (qnext_any pb tb d t r _ hN HK.out).mono ?_
      rintro e w5 ⟨rfl, h5, b5⟩
      have u5 := sN.bes b5 (by omega)
      have u4 := pN.bes b5 (by omega)
      have u6 := zN.bes b5 (by omega)
      have bs5 := bsN.trans b5
      have g5 := u5.lt
      have g7 := u6.lt
      clear hN sN pN zN bsN b5 nc0
      obtain ⟨c0, c1, c2, c3, c4, c5, fz0, fz1, fz2, fz3, fz4, fz5⟩ := id u5
      obtain ⟨tc0, tc1, tc2, tc3, -⟩ := id u6
      obtain ⟨a0, a1, a2, a3, a4, a5, ff0, ff1, ff2, ff3, ff4, ff5⟩ := id u4
      obtain ⟨W6, hW6, sy, hzy, hky, hby⟩ := u4.set (.string (Em.str oa)) (.string ⟨#[]⟩) (.string ⟨#[]⟩) (.int .i64 0) (.int .i64 t.pos) (.slice none 0 0)
      go_wp2_with fail
      obtain ⟨c0, c1, c2, c3, c4, c5, -⟩ := id sy
      refine bodyPost_ret (v := .agg #[.string (Em.str oa), .string ⟨#[]⟩, .string ⟨#[]⟩, .int .i64 0, .int .i64 t.pos, .slice none 0 0]) (by simp [results, Tryd.results91, go_sem, c0, c1, c2, c3, c4, c5]) rfl ?_
      refine ⟨_, .mk oa [] [] 0 t.pos [], .ok r, rfl, isNdP_leaf HTX.out txt_nil txt_nil i64_zero (i64_pos hpos), h5.set hzy hky (by omega) (by omega), hby pb w bs5 (by omega), ?_⟩
      show Fits (atomS E A (t :: r)) _ _
      have e : atomS E A (t :: r) = .ok (.mk [98, 111, 111, 108] [] [] 0 t.pos [], r) := by simp [atomS, isW, HK2.out.1, HK2.out.2]
      rw [e, HOA.out]
      exact ⟨rfl, rfl⟩
    · have q0 : ((Em.str oa).toList == []) = false := by rw [hoa]; exact (Em5.str_eq (by decide) _).trans (by decide)
      have q1 : ((Em.str oa).toList == [105, 110, 116]) = false := by rw [hoa]; exact (Em5.str_eq (by decide) _).trans (by decide)
      have q2 : ((Em.str oa).toList == [98, 111, 111, 108]) = false := by rw [hoa]; exact (Em5.str_eq (by decide) _).trans (by decide)
      have q3 : ((Em.str oa).toList == [115, 116, 114]) = false := by rw [hoa]; exact (Em5.str_eq (by decide) _).trans (by decide)
      have q4 : ((Em.str oa).toList == [118, 97, 114]) = false := by rw [hoa]; exact (Em5.str_eq (by decide) _).trans (by decide)
      have q5 : ((Em.str oa).toList == [103, 101, 116]) = true := by rw [hoa]; exact (Em5.str_eq (by decide) _).trans (by decide)
      obtain ⟨r, rfl⟩ := peek_ok HT.out (by rw [hk2]; decide)
      have HK : Hid (t.kind ≠ 5) := by rw [Hid, hk2]; decide
      have HK2 : Hid (t.kind = 4 ∧ t.text = [33]) := ⟨hk2, htt⟩
      have HTX : Hid (Txt oa) := by rw [Hid, hoa]; exact ⟨by decide, by decide⟩
      have HOA : Hid (oa = [103, 101, 116]) := hoa
      clear hoa hk2 htt
      obtain ⟨nc0, -⟩ := id sN
      go_wp2_with fail
      refine (qnext_any pb tb d t r _ hN HK.out).mono ?_
      rintro e w5 ⟨rfl, h5, b5⟩
      have u5 := sN.bes b5 (by omega)
      have u4 := pN.bes b5 (by omega)
      have u6 := zN.bes b5 (by omega)
      have bs5 := bsN.trans b5
      have g5 := u5.lt
      have g7 := u6.lt
      clear hN sN pN zN bsN b5 nc0
      obtain ⟨c0, c1, c2, c3, c4, c5, fz0, fz1, fz2, fz3, fz4, fz5⟩ := id u5
      obtain ⟨tc0, tc1, tc2, tc3, -⟩ := id u6
      go_wp2_with fail
      refine (HA.out h5.2 _ pb tb (.ok r) h5).mono ?_
      rintro e w8 ⟨v8, n8, s8, rfl, d8, h8, b8, F8⟩
      obtain ⟨y0, y1, y2, ym, yp, ya, yl, yc, rfl⟩ := ndb_shape d8
      have t4 := u4.bes b8 (by omega)
      have t5 := u5.bes b8 (by omega)
      have bs8 := bs5.trans b8
      have g8 := t5.lt
      have g9 := t4.lt
      have gs8 := b8.size
      have HF8 : Hid (Fits (thn (.ok r) A) n8 s8) := F8
      obtain ⟨W, hW, sx, hz, hk, hbb⟩ := t5.set5 (.slice (some ⟨w8.heap.size, 0, none⟩) 1 1)
      have t4w := t4.far hk (by omega)
      have bsw := hbb pb w bs8 (by omega)
      have h8w := h8.set hz hk (by omega) (by omega)
      have d8w := ndb_set d8 (by omega) hz hk
      clear c0 c1 c2 c3 c4 c5 fz0 fz1 fz2 fz3 fz4 fz5 tc0 tc1 tc2 tc3 u4 u5 u6 h5 bs5 b8 F8
      obtain ⟨c0, c1, c2, c3, c4, c5, fz0, fz1, fz2, fz3, fz4, fz5⟩ := id t5
      obtain ⟨sc0, sc1, sc2, sc3, sc4, sc5, -⟩ := id sx
      obtain ⟨a0, a1, a2, a3, a4, a5, ff0, ff1, ff2, ff3, ff4, ff5⟩ := id t4w
      obtain ⟨W6, hW6, sy, hzy, hky, hby⟩ := t4w.set (.string (Em.str oa)) (.string ⟨#[]⟩) (.string ⟨#[]⟩) (.int .i64 0) (.int .i64 t.pos) (.slice (some ⟨w8.heap.size, 0, none⟩) 1 1)
      go_wp2_with fail
      obtain ⟨c0, c1, c2, c3, c4, c5, -⟩ := sy.alloc (.cells #[.string y0, .string y1, .string y2, .int .i64 ym, .int .i64 yp, .slice ya yl yc] 24)
      refine bodyPost_ret (v := .agg #[.string (Em.str oa), .string ⟨#[]⟩, .string ⟨#[]⟩, .int .i64 0, .int .i64 t.pos, .slice (some ⟨w8.heap.size, 0, none⟩) 1 1]) (by simp [results, Tryd.results91, go_sem, c0, c1, c2, c3, c4, c5]) rfl ?_
      refine ⟨_, nd oa t.pos [n8], s8, rfl, ndb_mono (ndp_one (op := oa) (nm := []) (ar := []) (ndb_set d8w (by omega) hzy hky) (Below.refl _ _) (by omega) (by show _ ≤ _; omega) HTX.out txt_nil txt_nil hpos) (by omega), (h8w.set hzy hky (by omega) (by omega)).alloc _, (hby pb w bsw (by omega)).alloc _, ?_⟩
      show Fits (atomS E A (t :: r)) _ _
      have e : atomS E A (t :: r) = bnd (A r) fun a L => .ok (nd [103, 101, 116] t.pos [a], L) := by simp [atomS, isW, HK2.out.1, HK2.out.2]
      rw [e, HOA.out]
      exact fits_bnd HF8.out fits_ok
    · have q0 : ((Em.str oa).toList == []) = false := by rw [hoa]; exact (Em5.str_eq (by decide) _).trans (by decide)
      have q1 : ((Em.str oa).toList == [105, 110, 116]) = false := by rw [hoa]; exact (Em5.str_eq (by decide) _).trans (by decide)
      have q2 : ((Em.str oa).toList == [98, 111, 111, 108]) = false := by rw [hoa]; exact (Em5.str_eq (by decide) _).trans (by decide)
      have q3 : ((Em.str oa).toList == [115, 116, 114]) = false := by rw [hoa]; exact (Em5.str_eq (by decide) _).trans (by decide)
      have q4 : ((Em.str oa).toList == [118, 97, 114]) = false := by rw [hoa]; exact (Em5.str_eq (by decide) _).trans (by decide)
      have q5 : ((Em.str oa).toList == [103, 101, 116]) = false := by rw [hoa]; exact (Em5.str_eq (by decide) _).trans (by decide)
      have q6 : ((Em.str oa).toList == [110, 105, 108]) = false := by rw [hoa]; exact (Em5.str_eq (by decide) _).trans (by decide)
      have q7 : ((Em.str oa).toList == [117, 110, 105, 116]) = true := by rw [hoa]; exact (Em5.str_eq (by decide) _).trans (by decide)
      obtain ⟨r, rfl⟩ := peek_ok HT.out (by rw [hk2]; decide)
      have HK : Hid (t.kind ≠ 5) := by rw [Hid, hk2]; decide
      have HK2 : Hid (t.kind = 4 ∧ t.text = [40]) := ⟨hk2, htt⟩
      have HTX : Hid (Txt oa) := by rw [Hid, hoa]; exact ⟨by decide, by decide⟩
      have HOA : Hid (oa = [117, 110, 105, 116]) := hoa
      clear hoa hk2 htt
      obtain ⟨nc0, -⟩ := id sN
      go_wp2_with fail
      refine (qnext_any pb tb d t r _ hN HK.out).mono ?_
      rintro e w5 ⟨rfl, h5, b5⟩
      have u5 := sN.bes b5 (by omega)
      have u4 := pN.bes b5 (by omega)
      have u6 := zN.bes b5 (by omega)
      have bs5 := bsN.trans b5
      have g5 := u5.lt
      have g7 := u6.lt
      clear hN sN pN zN bsN b5 nc0
      obtain ⟨c0, c1, c2, c3, c4, c5, fz0, fz1, fz2, fz3, fz4, fz5⟩ := id u5
      obtain ⟨tc0, tc1, tc2, tc3, -⟩ := id u6
      have hoc : oa = [117, 110, 105, 116] := HOA.out
      subst hoc
      go_wp2_with fail
      refine (qparens_any d E (HE.out h5.2) _ pb tb (.ok r) h5 t.pos hpos).mono ?_
      rintro e w8 ⟨v8, n8, s8, rfl, d8, h8, b8, F8⟩
      obtain ⟨y0, y1, y2, ym, yp, ya, yl, yc, rfl⟩ := ndb_shape d8
      have t4 := u4.bes b8 (by omega)
      have bs8 := bs5.trans b8
      have g9 := t4.lt
      have gs8 := b8.size
      have HF8 : Hid (Fits (thn (.ok r) (roundS E t.pos)) n8 s8) := F8
      clear c0 c1 c2 c3 c4 c5 fz0 fz1 fz2 fz3 fz4 fz5 tc0 tc1 tc2 tc3 u4 u5 u6 h5 bs5 b8 F8
      obtain ⟨a0, a1, a2, a3, a4, a5, ff0, ff1, ff2, ff3, ff4, ff5⟩ := id t4
      obtain ⟨W6, hW6, sy, hzy, hky, hby⟩ := t4.set (.string y0) (.string y1) (.string y2) (.int .i64 ym) (.int .i64 yp) (.slice ya yl yc)
      go_wp2_with fail
      obtain ⟨c0, c1, c2, c3, c4, c5, -⟩ := id sy
      refine bodyPost_ret (v := .agg #[.string y0, .string y1, .string y2, .int .i64 ym, .int .i64 yp, .slice ya yl yc]) (by simp [results, Tryd.results91, go_sem, c0, c1, c2, c3, c4, c5]) rfl ?_
      refine ⟨_, n8, s8, rfl, ndb_mono (ndb_set d8 (by omega) hzy hky) (by omega), h8.set hzy hky (by omega) (by omega), hby pb w bs8 (by omega), ?_⟩
      show Fits (atomS E A (t :: r)) _ _
      have e : atomS E A (t :: r) = roundS E t.pos r := by simp [atomS, isW, HK2.out.1, HK2.out.2]
      rw [e]
      exact HF8.out
    · have q0 : ((Em.str oa).toList == []) = false := by rw [hoa]; exact (Em5.str_eq (by decide) _).trans (by decide)
      have q1 : ((Em.str oa).toList == [105, 110, 116]) = false := by rw [hoa]; exact (Em5.str_eq (by decide) _).trans (by decide)
      have q2 : ((Em.str oa).toList == [98, 111, 111, 108]) = false := by rw [hoa]; exact (Em5.str_eq (by decide) _).trans (by decide)
      have q3 : ((Em.str oa).toList == [115, 116, 114]) = false := by rw [hoa]; exact (Em5.str_eq (by decide) _).trans (by decide)
      have q4 : ((Em.str oa).toList == [118, 97, 114]) = false := by rw [hoa]; exact (Em5.str_eq (by decide) _).trans (by decide)
      have q5 : ((Em.str oa).toList == [103, 101, 116]) = false := by rw [hoa]; exact (Em5.str_eq (by decide) _).trans (by decide)
      have q6 : ((Em.str oa).toList == [110, 105, 108]) = true := by rw [hoa]; exact (Em5.str_eq (by decide) _).trans (by decide)
      obtain ⟨r, rfl⟩ := peek_ok HT.out (by rw [hk2]; decide)
      have HK : Hid (t.kind ≠ 5) := by rw [Hid, hk2]; decide
      have HK2 : Hid (t.kind = 4 ∧ t.text = [91]) := ⟨hk2, htt⟩
      have HTX : Hid (Txt oa) := by rw [Hid, hoa]; exact ⟨by decide, by decide⟩
      have HOA : Hid (oa = [110, 105, 108]) := hoa
      clear hoa hk2 htt
      obtain ⟨nc0, -⟩ := id sN
      go_wp2_with fail
      refine (qnext_any pb tb d t r _ hN HK.out).mono ?_
      rintro e w5 ⟨rfl, h5, b5⟩
      have u5 := sN.bes b5 (by omega)
      have u4 := pN.bes b5 (by omega)
      have u6 := zN.bes b5 (by omega)
      have bs5 := bsN.trans b5
      have g5 := u5.lt
      have g7 := u6.lt
      clear hN sN pN zN bsN b5 nc0
      obtain ⟨c0, c1, c2, c3, c4, c5, fz0, fz1, fz2, fz3, fz4, fz5⟩ := id u5
      obtain ⟨tc0, tc1, tc2, tc3, -⟩ := id u6
      go_wp2_with fail
      refine (qmust_any pb tb d (.ok r) [93] _ h5 (by decide) (by decide)).mono ?_
      rintro e w8 ⟨rfl, h8, b8⟩
      have t4 := u4.bes b8 (by omega)
      have t5 := u5.bes b8 (by omega)
      have bs8 := bs5.trans b8
      have g8 := t5.lt
      have g9 := t4.lt
      clear c0 c1 c2 c3 c4 c5 fz0 fz1 fz2 fz3 fz4 fz5 tc0 tc1 tc2 tc3 u4 u5 u6 h5 bs5 b8
      obtain ⟨c0, c1, c2, c3, c4, c5, -⟩ := id t5
      obtain ⟨a0, a1, a2, a3, a4, a5, ff0, ff1, ff2, ff3, ff4, ff5⟩ := id t4
      obtain ⟨W6, hW6, sy, hzy, hky, hby⟩ := t4.set (.string (Em.str oa)) (.string ⟨#[]⟩) (.string ⟨#[]⟩) (.int .i64 0) (.int .i64 t.pos) (.slice none 0 0)
      go_wp2_with fail
      obtain ⟨c0, c1, c2, c3, c4, c5, -⟩ := id sy
      refine bodyPost_ret (v := .agg #[.string (Em.str oa), .string ⟨#[]⟩, .string ⟨#[]⟩, .int .i64 0, .int .i64 t.pos, .slice none 0 0]) (by simp [results, Tryd.results91, go_sem, c0, c1, c2, c3, c4, c5]) rfl ?_
      refine ⟨_, nd oa t.pos [], needS [93] (.ok r), rfl, isNdP_leaf HTX.out txt_nil txt_nil i64_zero (i64_pos hpos), h8.set hzy hky (by omega) (by omega), hby pb w bs8 (by omega), ?_⟩
      show Fits (atomS E A (t :: r)) _ _
      have e : atomS E A (t :: r) = bnd0 (need [93] r) fun L => .ok (nd [110, 105, 108] t.pos [], L) := by simp [atomS, isW, HK2.out.1, HK2.out.2]
      rw [e, HOA.out, needS_thn]
      show Fits (thn (.ok r) fun L => bnd0 (need [93] L) fun L => .ok (nd [110, 105, 108] t.pos [], L)) _ _
      rw [← needS_thn, thn_need]
      exact fits_ok
end Go.Proofs.YtgojjknbingfpaaDoor

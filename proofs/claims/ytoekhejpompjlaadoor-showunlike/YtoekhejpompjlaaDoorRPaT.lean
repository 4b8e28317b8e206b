/- What 'atom' of the document's own parser answers. -/
import Derived.Test.YtoekhejpompjlaaDoorRPaR
namespace Go.Proofs.YtoekhejpompjlaaDoor
open Go.RowKit Go.Em5 Go.Em6
set_option linter.unusedSimpArgs false

theorem deep_fits {d : Nat} {s : St} {G : List Em4.Tok → R} {n : Nd} {s' : St} (h : Fits (thn (deepS d s) G) n s') : Fits (thn s (fun L => if 40 ≤ d then .error (3, posL L) else G L)) n s' := by
  unfold deepS at h
  by_cases hd : 40 ≤ d
  · rw [if_pos hd] at h
    cases s with
    | error e => exact h
    | ok L =>
      show Fits (if 40 ≤ d then .error (3, posL L) else G L) n s'
      rw [if_pos hd]
      exact h
  · rw [if_neg hd] at h
    refine fits_fuel h (fun L _ => ?_)
    rw [if_neg hd]
theorem deep_lt {d : Nat} {s : St} {L : List Em4.Tok} (h : deepS d s = .ok L) : d < 40 := by
  unfold deepS at h
  by_cases hd : 40 ≤ d
  · rw [if_pos hd] at h
    cases s <;> simp [failS] at h
  · omega
theorem now_ok {s : St} {t : Em4.Tok} (h : nowS s = t) (hk : t.kind ≠ 5) : ∃ r, s = .ok (t :: r) := by
  cases s with
  | error e => subst h; simp [nowS] at hk
  | ok L => cases L with
    | nil => subst h; simp [nowS] at hk
    | cons x r => exact ⟨r, by rw [← h]; rfl⟩
/-- Four cells, at a world where they are as they were made. -/
structure Four (w : World) (g : Nat) (v0 v1 v2 v3 : Value) : Prop where
  c0 : w.cell? ⟨g, 0, none⟩ = some v0
  c1 : w.cell? ⟨g, 1, none⟩ = some v1
  c2 : w.cell? ⟨g, 2, none⟩ = some v2
  c3 : w.cell? ⟨g, 3, none⟩ = some v3
theorem Four.bes {w w' : World} {g pb : Nat} {v0 v1 v2 v3 : Value} (h : Four w g v0 v1 v2 v3) (hb : Bes pb w w') (hn : g ≠ pb) : Four w' g v0 v1 v2 v3 := by
  have hl : g < w.heap.size := Em.cell_lt h.c0
  have c : ∀ o, w'.cell? ⟨g, o, none⟩ = w.cell? ⟨g, o, none⟩ := fun o => hb.cell (p := ⟨g, o, none⟩) hl hn
  exact ⟨by rw [c]; exact h.c0, by rw [c]; exact h.c1, by rw [c]; exact h.c2, by rw [c]; exact h.c3⟩
theorem Four.made (w : World) (v0 v1 v2 v3 : Value) (ty : TypeId) : Four (w.alloc (.cells #[v0, v1, v2, v3] ty)) w.heap.size v0 v1 v2 v3 := ⟨by simp, by simp, by simp, by simp⟩

set_option maxRecDepth 100000 in
set_option maxHeartbeats 4000000 in
theorem patom_does (d : Nat) (hd : d ≤ 40) (C A : List Em4.Tok → R) (hC : d < 40 → Does 22 (d + 1) C) (hA : d < 40 → Does 89 (d + 1) A) : Does 89 d (fun L => if 40 ≤ d then .error (3, posL L) else atomS C A L) := by
  obtain ⟨G, hG⟩ : ∃ G : List Em4.Tok → R, G = fun L => if 40 ≤ d then .error (3, posL L) else atomS C A L := ⟨_, rfl⟩
  rw [← hG]
  have HGG : Hid (G = fun L => if 40 ≤ d then .error (3, posL L) else atomS C A L) := hG
  clear hG
  intro w pb tb s h
  have HH : Hid (IsSt w pb tb s) := h
  have HC : Hid (d < 40 → Does 22 (d + 1) C) := hC
  have HA : Hid (d < 40 → Does 89 (d + 1) A) := hA
  obtain ⟨hlp, hlt, hne⟩ := h.lt
  clear h hC hA
  go_enter Tryd.func89, Tryd.ntmps89
  go_wp2_with fail
  have z4 := Six.made w (.string ⟨#[]⟩) (.string ⟨#[]⟩) (.string ⟨#[]⟩) (.int .i64 0) (.int .i64 0) (.slice none 0 0) 24
  refine (pdeep_any pb tb s d _ (HH.out.alloc _) (by omega)).mono ?_
  rintro e w1 ⟨rfl, h1, b1⟩
  have p4 := z4.bes b1 (by omega)
  have bs1 : Bes pb w w1 := ((Bes.refl pb w).alloc _).trans b1
  clear z4 b1
  obtain ⟨s1, hs1⟩ : ∃ s1, s1 = deepS d s := ⟨_, rfl⟩
  rw [← hs1] at h1
  have HDL : Hid (∀ L, s1 = .ok L → d < 40) := fun L e => deep_lt (s := s) (by rw [← hs1]; exact e)
  have HFI : Hid (∀ n s', Fits (thn s1 (atomS C A)) n s' → Fits (thn s G) n s') := fun n s' hf => by rw [HGG.out]; exact deep_fits (by rw [← hs1]; exact hf)
  clear hs1
  go_wp2_with fail
  refine (pnow_any pb tb s1 _ h1).mono ?_
  rintro e w2 ⟨rfl, hb2⟩
  obtain ⟨t, htd⟩ : ∃ t, t = nowS s1 := ⟨_, rfl⟩
  have hto : Em6.TokOk t := by rw [htd]; exact h1.now
  have HNW : Hid (nowS s1 = t) := htd.symm
  rw [← htd]
  clear htd
  simp only [Em6.tokV]
  have h2 := h1.below hb2
  have q42 := p4.below hb2
  have bs2 : Bes pb w w2 := bs1.trans (Bes.of hb2)
  have g5 : w.heap.size < w2.heap.size := q42.lt
  have hl2 : pb < w2.heap.size := h2.lt.1
  have hl2t : tb < w2.heap.size := h2.lt.2.1
  clear h1 p4 bs1 hb2
  by_cases hk2 : t.kind = 2
  · have hkk : (t.kind == 2) = true := by simpa using hk2
    obtain ⟨r, rfl⟩ := now_ok HNW.out (by omega)
    have HN : Hid (EndL r) := h2.tok.2.tail (by omega)
    obtain ⟨T, off, cap, i, c, p, k0, k1, k2, k3, hfr, hc1, hc2, hT, hm, -⟩ := h2.cells
    obtain ⟨-, m2, -, m4, m5⟩ := hm
    have hf1 := hfr 1
    have hcap : cap ≤ 9223372036854775807 := hc2
    have HS : IsSt (w2.setCell ⟨pb, 1, none⟩ (.int .i64 (i + 1))) pb tb (.ok r) := m5 r HN.out (by
      have := congrArg List.tail m4
      rw [List.tail_drop] at this
      simpa using this)
    have x4 : Six (w2.setCell ⟨pb, 1, none⟩ (.int .i64 (i + 1))) w.heap.size (.string ⟨#[]⟩) (.string ⟨#[]⟩) (.string ⟨#[]⟩) (.int .i64 0) (.int .i64 0) (.slice none 0 0) := q42.far (k := pb) (fun j hj => Below.heap_setCell _ _ _ _ hj) (by omega)
    have xs := bs2.put 1 (.int .i64 (i + 1))
    obtain ⟨a0, a1, a2, a3, a4, a5, f0, f1, f2, f3', f4, f5⟩ := id q42
    obtain ⟨W, hW, sx, hz, hk, hbb⟩ := x4.set (.string ⟨#[105, 110, 116]⟩) (.string ⟨#[]⟩) (.string ⟨#[]⟩) (.int .i64 t.num) (.int .i64 t.pos) (.slice none 0 0)
    have HSW := HS.set hz hk (by omega) (by omega)
    have HBW := hbb pb w xs (Nat.le_refl _)
    have HAT : Hid (atomS C A (t :: r) = .ok (.mk [105, 110, 116] [] [] t.num t.pos [], r)) := by simp [Hid, atomS, hk2]
    clear m4 m5 hT hfr h2 HS
    go_wp2_with fail
    obtain ⟨c0, c1, c2, c3, c4, c5, -⟩ := id sx
    have hgW := sx.lt
    refine bodyPost_ret (v := .agg #[.string ⟨#[105, 110, 116]⟩, .string ⟨#[]⟩, .string ⟨#[]⟩, .int .i64 t.num, .int .i64 t.pos, .slice none 0 0]) (by simp [results, Tryd.results89, go_sem, hW, hgW, c0, c1, c2, c3, c4, c5]) rfl ?_
    refine ⟨_, .mk [105, 110, 116] [] [] t.num t.pos [], .ok r, rfl, isNdP_leaf (op := [105, 110, 116]) (nm := []) (ar := []) ⟨by decide, by decide⟩ txt_nil txt_nil hto.2.1 (i64_pos hto.2.2.1), HSW.alloc _, HBW.alloc _, HFI.out _ _ ?_⟩
    show Fits (atomS C A (t :: r)) _ _
    rw [HAT.out]
    exact ⟨rfl, rfl⟩
  by_cases hk3 : t.kind = 3
  · have hkk : (t.kind == 3) = true := by simpa using hk3
    obtain ⟨r, rfl⟩ := now_ok HNW.out (by omega)
    have HN : Hid (EndL r) := h2.tok.2.tail (by omega)
    obtain ⟨T, off, cap, i, c, p, k0, k1, k2, k3, hfr, hc1, hc2, hT, hm, -⟩ := h2.cells
    obtain ⟨-, m2, -, m4, m5⟩ := hm
    have hf1 := hfr 1
    have hcap : cap ≤ 9223372036854775807 := hc2
    have HS : IsSt (w2.setCell ⟨pb, 1, none⟩ (.int .i64 (i + 1))) pb tb (.ok r) := m5 r HN.out (by
      have := congrArg List.tail m4
      rw [List.tail_drop] at this
      simpa using this)
    have x4 : Six (w2.setCell ⟨pb, 1, none⟩ (.int .i64 (i + 1))) w.heap.size (.string ⟨#[]⟩) (.string ⟨#[]⟩) (.string ⟨#[]⟩) (.int .i64 0) (.int .i64 0) (.slice none 0 0) := q42.far (k := pb) (fun j hj => Below.heap_setCell _ _ _ _ hj) (by omega)
    have xs := bs2.put 1 (.int .i64 (i + 1))
    obtain ⟨a0, a1, a2, a3, a4, a5, f0, f1, f2, f3', f4, f5⟩ := id q42
    obtain ⟨W, hW, sx, hz, hk, hbb⟩ := x4.set (.string ⟨#[115, 116, 114]⟩) (.string (Em.str t.text)) (.string ⟨#[]⟩) (.int .i64 0) (.int .i64 t.pos) (.slice none 0 0)
    have HSW := HS.set hz hk (by omega) (by omega)
    have HBW := hbb pb w xs (Nat.le_refl _)
    have HAT : Hid (atomS C A (t :: r) = .ok (.mk [115, 116, 114] t.text [] 0 t.pos [], r)) := by simp [Hid, atomS, hk3]
    have hkn2 : (t.kind == 2) = false := by simpa using hk2
    clear m4 m5 hT hfr h2 HS
    go_wp2_with fail
    obtain ⟨c0, c1, c2, c3, c4, c5, -⟩ := id sx
    have hgW := sx.lt
    refine bodyPost_ret (v := .agg #[.string ⟨#[115, 116, 114]⟩, .string (Em.str t.text), .string ⟨#[]⟩, .int .i64 0, .int .i64 t.pos, .slice none 0 0]) (by simp [results, Tryd.results89, go_sem, hW, hgW, c0, c1, c2, c3, c4, c5]) rfl ?_
    refine ⟨_, .mk [115, 116, 114] t.text [] 0 t.pos [], .ok r, rfl, isNdP_leaf (op := [115, 116, 114]) (nm := t.text) (ar := []) ⟨by decide, by decide⟩ hto.1 txt_nil i64_zero (i64_pos hto.2.2.1), HSW.alloc _, HBW.alloc _, HFI.out _ _ ?_⟩
    show Fits (atomS C A (t :: r)) _ _
    rw [HAT.out]
    exact ⟨rfl, rfl⟩
  by_cases hk1 : t.kind = 1
  · have hkk : (t.kind == 1) = true := by simpa using hk1
    obtain ⟨r, rfl⟩ := now_ok HNW.out (by omega)
    have HN : Hid (EndL r) := h2.tok.2.tail (by omega)
    obtain ⟨T, off, cap, i, c, p, k0, k1, k2, k3, hfr, hc1, hc2, hT, hm, -⟩ := h2.cells
    obtain ⟨-, m2, -, m4, m5⟩ := hm
    have hf1 := hfr 1
    have hcap : cap ≤ 9223372036854775807 := hc2
    have HS : IsSt (w2.setCell ⟨pb, 1, none⟩ (.int .i64 (i + 1))) pb tb (.ok r) := m5 r HN.out (by
      have := congrArg List.tail m4
      rw [List.tail_drop] at this
      simpa using this)
    have x4 : Six (w2.setCell ⟨pb, 1, none⟩ (.int .i64 (i + 1))) w.heap.size (.string ⟨#[]⟩) (.string ⟨#[]⟩) (.string ⟨#[]⟩) (.int .i64 0) (.int .i64 0) (.slice none 0 0) := q42.far (k := pb) (fun j hj => Below.heap_setCell _ _ _ _ hj) (by omega)
    have xs := bs2.put 1 (.int .i64 (i + 1))
    obtain ⟨a0, a1, a2, a3, a4, a5, f0, f1, f2, f3', f4, f5⟩ := id q42
    obtain ⟨W, hW, sx, hz, hk, hbb⟩ := x4.set (.string ⟨#[118, 97, 114]⟩) (.string (Em.str t.text)) (.string ⟨#[]⟩) (.int .i64 0) (.int .i64 t.pos) (.slice none 0 0)
    have HSW := HS.set hz hk (by omega) (by omega)
    have HBW := hbb pb w xs (Nat.le_refl _)
    have HAT : Hid (atomS C A (t :: r) = .ok (.mk [118, 97, 114] t.text [] 0 t.pos [], r)) := by simp [Hid, atomS, hk1]
    have hkn2 : (t.kind == 2) = false := by simpa using hk2
    have hkn3 : (t.kind == 3) = false := by simpa using hk3
    clear m4 m5 hT hfr h2 HS
    go_wp2_with fail
    obtain ⟨c0, c1, c2, c3, c4, c5, -⟩ := id sx
    have hgW := sx.lt
    refine bodyPost_ret (v := .agg #[.string ⟨#[118, 97, 114]⟩, .string (Em.str t.text), .string ⟨#[]⟩, .int .i64 0, .int .i64 t.pos, .slice none 0 0]) (by simp [results, Tryd.results89, go_sem, hW, hgW, c0, c1, c2, c3, c4, c5]) rfl ?_
    refine ⟨_, .mk [118, 97, 114] t.text [] 0 t.pos [], .ok r, rfl, isNdP_leaf (op := [118, 97, 114]) (nm := t.text) (ar := []) ⟨by decide, by decide⟩ hto.1 txt_nil i64_zero (i64_pos hto.2.2.1), HSW.alloc _, HBW.alloc _, HFI.out _ _ ?_⟩
    show Fits (atomS C A (t :: r)) _ _
    rw [HAT.out]
    exact ⟨rfl, rfl⟩
  have hkn2 : (t.kind == 2) = false := by simpa using hk2
  have hkn3 : (t.kind == 3) = false := by simpa using hk3
  have hkn1 : (t.kind == 1) = false := by simpa using hk1
  have HK : Hid (t.kind ≠ 2 ∧ t.kind ≠ 3 ∧ t.kind ≠ 1) := ⟨hk2, hk3, hk1⟩
  clear hk2 hk3 hk1
  have h2a := h2.alloc (.cells #[.int .i64 t.kind, .string (Em.str t.text), .int .i64 t.num, .int .i64 t.pos] 49)
  have q42a := q42.alloc (.cells #[.int .i64 t.kind, .string (Em.str t.text), .int .i64 t.num, .int .i64 t.pos] 49)
  have q52a := Four.made w2 (.int .i64 t.kind) (.string (Em.str t.text)) (.int .i64 t.num) (.int .i64 t.pos) 49
  have bs2a := bs2.alloc (.cells #[.int .i64 t.kind, .string (Em.str t.text), .int .i64 t.num, .int .i64 t.pos] 49)
  have hpos : t.pos ≤ 140737488351232 := hto.2.2.1
  clear h2 q42 bs2 hto
  go_wp2_with fail
  refine (peat_any pb tb s1 [116, 114, 117, 101] _ h2a (by decide)).mono ?_
  rintro e w3 ⟨rfl, h3, b3⟩
  have q43 := q42a.bes b3 (by omega)
  have q53 := q52a.bes b3 (by omega)
  have bs3 := bs2a.trans b3
  clear h2a q42a q52a bs2a b3
  obtain ⟨q, hq⟩ : ∃ q, q = isWS [116, 114, 117, 101] s1 := ⟨_, rfl⟩
  rw [← hq]
  cases q with
  | true =>
    obtain ⟨r, rfl⟩ : ∃ r, s1 = .ok (t :: r) := by
      obtain ⟨t', r', e, -⟩ := isWS_ok hq.symm
      have := HNW.out
      rw [e] at this
      exact ⟨r', by rw [e, ← this]; rfl⟩
    rw [eatS_t hq.symm] at h3
    have HQ : Hid (isW [116, 114, 117, 101] (t :: r) = true) := hq.symm
    have hdl := HDL.out _ rfl
    clear hq
    have HAT : Hid (atomS C A (t :: r) = .ok (.mk [98, 111, 111, 108] [] [] 1 t.pos [], r)) := by
      simp [Hid, atomS, HK.out.1, HK.out.2.1, HK.out.2.2, HQ.out]
    obtain ⟨a0, a1, a2, a3, a4, a5, f0, f1, f2, f3', f4, f5⟩ := id q43
    obtain ⟨e0, e1, e2, e3⟩ := id q53
    go_wp2_with fail
    obtain ⟨W, hW, sx, hz, hk, hbb⟩ := q43.set (.string ⟨#[98, 111, 111, 108]⟩) (.string ⟨#[]⟩) (.string ⟨#[]⟩) (.int .i64 1) (.int .i64 t.pos) (.slice none 0 0)
    rw [hW]
    obtain ⟨c0, c1, c2, c3, c4, c5, -⟩ := id sx
    refine bodyPost_ret (v := .agg #[.string ⟨#[98, 111, 111, 108]⟩, .string ⟨#[]⟩, .string ⟨#[]⟩, .int .i64 1, .int .i64 t.pos, .slice none 0 0]) (by simp [results, Tryd.results89, go_sem, c0, c1, c2, c3, c4, c5]) rfl ?_
    refine ⟨_, .mk [98, 111, 111, 108] [] [] 1 t.pos [], .ok r, rfl, isNdP_leaf (op := [98, 111, 111, 108]) (nm := []) (ar := []) ⟨by decide, by decide⟩ txt_nil txt_nil ⟨by omega, by omega⟩ (i64_pos hpos), h3.set hz hk (by omega) (by omega), hbb pb w bs3 (Nat.le_refl _), HFI.out _ _ ?_⟩
    show Fits (atomS C A (t :: r)) _ _
    rw [HAT.out]
    exact ⟨rfl, rfl⟩
  | false =>
    rw [eatS_f hq.symm] at h3
    have HN0 : Hid (isWS [116, 114, 117, 101] s1 = false) := hq.symm
    clear hq
    go_wp2_with fail
    refine (peat_any pb tb s1 [102, 97, 108, 115, 101] _ h3 (by decide)).mono ?_
    rintro e w4a ⟨rfl, h4a, b4a⟩
    have q44a := q43.bes b4a (by omega)
    have q54a := q53.bes b4a (by omega)
    have bs4a := bs3.trans b4a
    clear h3 q43 q53 bs3 b4a
    obtain ⟨q, hq⟩ : ∃ q, q = isWS [102, 97, 108, 115, 101] s1 := ⟨_, rfl⟩
    rw [← hq]
    cases q with
    | true =>
      obtain ⟨r, rfl⟩ : ∃ r, s1 = .ok (t :: r) := by
        obtain ⟨t', r', e, -⟩ := isWS_ok hq.symm
        have := HNW.out
        rw [e] at this
        exact ⟨r', by rw [e, ← this]; rfl⟩
      rw [eatS_t hq.symm] at h4a
      have HQ : Hid (isW [102, 97, 108, 115, 101] (t :: r) = true) := hq.symm
      have hdl := HDL.out _ rfl
      clear hq
      have HAT : Hid (atomS C A (t :: r) = .ok (.mk [98, 111, 111, 108] [] [] 0 t.pos [], r)) := by
        have HW0 : isW [116, 114, 117, 101] (t :: r) = false := HN0.out
        simp [Hid, atomS, HK.out.1, HK.out.2.1, HK.out.2.2, HW0, HQ.out]
      obtain ⟨a0, a1, a2, a3, a4, a5, f0, f1, f2, f3', f4, f5⟩ := id q44a
      obtain ⟨e0, e1, e2, e3⟩ := id q54a
      go_wp2_with fail
      obtain ⟨W, hW, sx, hz, hk, hbb⟩ := q44a.set (.string ⟨#[98, 111, 111, 108]⟩) (.string ⟨#[]⟩) (.string ⟨#[]⟩) (.int .i64 0) (.int .i64 t.pos) (.slice none 0 0)
      rw [hW]
      obtain ⟨c0, c1, c2, c3, c4, c5, -⟩ := id sx
      refine bodyPost_ret (v := .agg #[.string ⟨#[98, 111, 111, 108]⟩, .string ⟨#[]⟩, .string ⟨#[]⟩, .int .i64 0, .int .i64 t.pos, .slice none 0 0]) (by simp [results, Tryd.results89, go_sem, c0, c1, c2, c3, c4, c5]) rfl ?_
      refine ⟨_, .mk [98, 111, 111, 108] [] [] 0 t.pos [], .ok r, rfl, isNdP_leaf (op := [98, 111, 111, 108]) (nm := []) (ar := []) ⟨by decide, by decide⟩ txt_nil txt_nil ⟨by omega, by omega⟩ (i64_pos hpos), h4a.set hz hk (by omega) (by omega), hbb pb w bs4a (Nat.le_refl _), HFI.out _ _ ?_⟩
      show Fits (atomS C A (t :: r)) _ _
      rw [HAT.out]
      exact ⟨rfl, rfl⟩
    | false =>
      rw [eatS_f hq.symm] at h4a
      have HN1 : Hid (isWS [102, 97, 108, 115, 101] s1 = false) := hq.symm
      clear hq
      go_wp2_with fail
      refine (peat_any pb tb s1 [33] _ h4a (by decide)).mono ?_
      rintro e w6 ⟨rfl, h6, b6⟩
      have q46 := q44a.bes b6 (by omega)
      have q56 := q54a.bes b6 (by omega)
      have bs6 := bs4a.trans b6
      clear h4a q44a q54a bs4a b6
      obtain ⟨q, hq⟩ : ∃ q, q = isWS [33] s1 := ⟨_, rfl⟩
      rw [← hq]
      cases q with
      | true =>
        obtain ⟨r, rfl⟩ : ∃ r, s1 = .ok (t :: r) := by
          obtain ⟨t', r', e, -⟩ := isWS_ok hq.symm
          have := HNW.out
          rw [e] at this
          exact ⟨r', by rw [e, ← this]; rfl⟩
        rw [eatS_t hq.symm] at h6
        have HQ : Hid (isW [33] (t :: r) = true) := hq.symm
        have hdl := HDL.out _ rfl
        clear hq
        have HD1 : Hid (((d : Int) + 1) = ((d + 1 : Nat) : Int)) := by rw [Hid]; omega
        have HDW : Hid (IntKind.i64.wrap ((d : Int) + 1) = ((d + 1 : Nat) : Int)) := by rw [Hid, IntKind.wrap_i64]; omega
        have HAT : Hid (atomS C A (t :: r) = bnd (A r) fun a L => .ok (nd [103, 101, 116] t.pos [a], L)) := by
          have HW0 : isW [116, 114, 117, 101] (t :: r) = false := HN0.out
          have HW1 : isW [102, 97, 108, 115, 101] (t :: r) = false := HN1.out
          simp [Hid, atomS, HK.out.1, HK.out.2.1, HK.out.2.2, HW0, HW1, HQ.out]
        obtain ⟨e0, e1, e2, e3⟩ := id q56
        have hg5 : w2.heap.size < w6.heap.size := Em.cell_lt e0
        have HA' : Hid (Does 89 (d + 1) A) := HA.out hdl
        have HO : Hid (∀ w', Bes pb w6 w' → w'.cell? ⟨w2.heap.size, 3, none⟩ = some (.int .i64 t.pos)) := fun w' hb => (q56.bes hb (by omega)).c3
        have hbd : Bes pb w6 w6.drew := (Bes.refl _ _).drew
        go_wp2_with fail
        go_region_held (fun w' => w'.cell? ⟨w2.heap.size, 3, none⟩ = some (.int .i64 t.pos))
          (with_reducible (first | exact u6 | exact u5 | exact HO.out _ (b83.alloc _) | exact HO.out _ b83 | exact HO.out _ hbd))
          (first | (go_at_call 89; rw [HDW.out]; refine (HA'.out _ pb tb (.ok r) h6.drew).mono ?_; rintro e w8 ⟨v8, n8, s8, rfl, d8, h8, b8, F8⟩; obtain ⟨y0, y1, y2, ym, yp, ya, yl, yc, rfl⟩ := ndb_shape d8; have t4 := q46.drew.bes b8 (by omega); have bs8 := bs6.drew.trans b8; have b83 := hbd.trans b8; have e8' : NdB (w.heap.size + 1) w8 n8 _ := ndb_mono d8 (by simp; omega); have HF8 : Hid (Fits (thn (.ok r) A) n8 s8) := F8; have hg8 := b83.size; clear F8 d8 b8) | (go_at_call 38; refine (pnode_any _ _ _ _ _ _).mono ?_; rintro e w9 ⟨rfl, hb9⟩; have u4 := (t4.alloc _).below hb9; have b93 := (b83.alloc _).trans (Bes.of hb9); have u5 := HO.out _ b93; have h9 := (h8.alloc _).below hb9; have bs9 := (bs8.alloc _).trans (Bes.of hb9); have e9 : NdB (w.heap.size + 1) w9 (nd [103, 101, 116] t.pos [n8]) (.agg #[.string ⟨#[103, 101, 116]⟩, .string (Em.str []), .string (Em.str []), .int .i64 0, .int .i64 t.pos, .slice (some ⟨w8.heap.size, 0, none⟩) 1 1]) := ndp_one (op := [103, 101, 116]) e8' (by simpa using hb9) rfl (by omega) ⟨by decide, by decide⟩ txt_nil txt_nil hpos; obtain ⟨W, hW, sx, hz, hk', hbb⟩ := u4.set (.string ⟨#[103, 101, 116]⟩) (.string (Em.str [])) (.string (Em.str [])) (.int .i64 0) (.int .i64 t.pos) (.slice (some ⟨w8.heap.size, 0, none⟩) 1 1); have u6 : W.cell? ⟨w2.heap.size, 3, none⟩ = some (.int .i64 t.pos) := (by rw [World.cell?_of_block (a := ⟨w2.heap.size, 3, none⟩) (hk' _ (by show w2.heap.size ≠ w.heap.size; omega))]; exact u5); obtain ⟨a0, a1, a2, a3, a4, a5, f0, f1, f2, f3', f4, f5⟩ := id u4))
        all_goals
          go_wp2
          obtain ⟨c0, c1, c2, c3, c4, c5, -⟩ := id sx
          refine bodyPost_ret (v := .agg #[.string ⟨#[103, 101, 116]⟩, .string (Em.str []), .string (Em.str []), .int .i64 0, .int .i64 t.pos, .slice (some ⟨w8.heap.size, 0, none⟩) 1 1]) (by simp [results, Tryd.results89, go_sem, c0, c1, c2, c3, c4, c5]) rfl ?_
          refine ⟨_, nd [103, 101, 116] t.pos [n8], s8, rfl, ndb_mono (ndb_set e9 (by omega) hz hk') (by omega), h9.set hz hk' (by omega) (by omega), hbb pb w bs9 (Nat.le_refl _), HFI.out _ _ ?_⟩
          show Fits (atomS C A (t :: r)) _ _
          rw [HAT.out]
          exact fits_bnd HF8.out fits_ok
      | false =>
        rw [eatS_f hq.symm] at h6
        have HN2 : Hid (isWS [33] s1 = false) := hq.symm
        clear hq
        go_wp2_with fail
        refine (peat_any pb tb s1 [91] _ h6 (by decide)).mono ?_
        rintro e w7 ⟨rfl, h7, b7⟩
        have q47 := q46.bes b7 (by omega)
        have q57 := q56.bes b7 (by omega)
        have bs7 := bs6.trans b7
        clear h6 q46 q56 bs6 b7
        obtain ⟨q, hq⟩ : ∃ q, q = isWS [91] s1 := ⟨_, rfl⟩
        rw [← hq]
        cases q with
        | true =>
          obtain ⟨r, rfl⟩ : ∃ r, s1 = .ok (t :: r) := by
            obtain ⟨t', r', e, -⟩ := isWS_ok hq.symm
            have := HNW.out
            rw [e] at this
            exact ⟨r', by rw [e, ← this]; rfl⟩
          rw [eatS_t hq.symm] at h7
          have HQ : Hid (isW [91] (t :: r) = true) := hq.symm
          have hdl := HDL.out _ rfl
          clear hq
          have HAT : Hid (atomS C A (t :: r) = bnd0 (need [93] r) fun L => .ok (nd [110, 105, 108] t.pos [], L)) := by
            have HW0 : isW [116, 114, 117, 101] (t :: r) = false := HN0.out
            have HW1 : isW [102, 97, 108, 115, 101] (t :: r) = false := HN1.out
            have HW2 : isW [33] (t :: r) = false := HN2.out
            simp [Hid, atomS, HK.out.1, HK.out.2.1, HK.out.2.2, HW0, HW1, HW2, HQ.out]
          go_wp2_with fail
          refine (pneed_any pb tb (.ok r) [93] _ h7 (by decide)).mono ?_
          rintro e w9 ⟨rfl, h9, b9⟩
          have u4 := q47.bes b9 (by omega)
          have u5 := q57.bes b9 (by omega)
          have bs9 := bs7.trans b9
          clear h7 q47 q57 bs7 b9
          obtain ⟨a0, a1, a2, a3, a4, a5, f0, f1, f2, f3', f4, f5⟩ := id u4
          obtain ⟨e0, e1, e2, e3⟩ := id u5
          go_wp2_with fail
          obtain ⟨W, hW, sx, hz, hk, hbb⟩ := u4.set (.string ⟨#[110, 105, 108]⟩) (.string ⟨#[]⟩) (.string ⟨#[]⟩) (.int .i64 0) (.int .i64 t.pos) (.slice none 0 0)
          rw [hW]
          obtain ⟨c0, c1, c2, c3, c4, c5, -⟩ := id sx
          refine bodyPost_ret (v := .agg #[.string ⟨#[110, 105, 108]⟩, .string ⟨#[]⟩, .string ⟨#[]⟩, .int .i64 0, .int .i64 t.pos, .slice none 0 0]) (by simp [results, Tryd.results89, go_sem, c0, c1, c2, c3, c4, c5]) rfl ?_
          refine ⟨_, nd [110, 105, 108] t.pos [], needS [93] (.ok r), rfl, isNdP_leaf (op := [110, 105, 108]) (nm := []) (ar := []) ⟨by decide, by decide⟩ txt_nil txt_nil i64_zero (i64_pos hpos), h9.set hz hk (by omega) (by omega), hbb pb w bs9 (Nat.le_refl _), HFI.out _ _ ?_⟩
          show Fits (atomS C A (t :: r)) _ _
          rw [HAT.out]
          show Fits (thn (.ok r) fun L => bnd0 (need [93] L) fun L => .ok (nd [110, 105, 108] t.pos [], L)) _ _
          rw [thn_need]
          exact fits_ok
        | false =>
          rw [eatS_f hq.symm] at h7
          have HN3 : Hid (isWS [91] s1 = false) := hq.symm
          clear hq
          go_wp2_with fail
          refine (peat_any pb tb s1 [40] _ h7 (by decide)).mono ?_
          rintro e w8 ⟨rfl, h8, b8⟩
          have q48 := q47.bes b8 (by omega)
          have q58 := q57.bes b8 (by omega)
          have bs8 := bs7.trans b8
          clear h7 q47 q57 bs7 b8
          obtain ⟨q, hq⟩ : ∃ q, q = isWS [40] s1 := ⟨_, rfl⟩
          rw [← hq]
          cases q with
          | true =>
            obtain ⟨r, rfl⟩ : ∃ r, s1 = .ok (t :: r) := by
              obtain ⟨t', r', e, -⟩ := isWS_ok hq.symm
              have := HNW.out
              rw [e] at this
              exact ⟨r', by rw [e, ← this]; rfl⟩
            rw [eatS_t hq.symm] at h8
            have HQ : Hid (isW [40] (t :: r) = true) := hq.symm
            have hdl := HDL.out _ rfl
            clear hq
            have HAT : Hid (atomS C A (t :: r) = roundS C t.pos r) := by
              have HW0 : isW [116, 114, 117, 101] (t :: r) = false := HN0.out
              have HW1 : isW [102, 97, 108, 115, 101] (t :: r) = false := HN1.out
              have HW2 : isW [33] (t :: r) = false := HN2.out
              have HW3 : isW [91] (t :: r) = false := HN3.out
              simp [Hid, atomS, HK.out.1, HK.out.2.1, HK.out.2.2, HW0, HW1, HW2, HW3, HQ.out]
            obtain ⟨e0, e1, e2, e3⟩ := id q58
            have HC' : Hid (Does 22 (d + 1) C) := HC.out hdl
            go_wp2_with fail
            refine (pround_does d hd C HC'.out _ pb tb (.ok r) t.pos h8 hpos).mono ?_
            rintro e w9 ⟨v9, n9, s9, rfl, d9, h9, b9, F9⟩
            obtain ⟨y0, y1, y2, ym, yp, ya, yl, yc, rfl⟩ := ndb_shape d9
            have HF9 : Hid (Fits (thn (.ok r) (roundS C t.pos)) n9 s9) := F9
            have u4 := q48.bes b9 (by omega)
            have bs9 := bs8.trans b9
            have hg8 := q48.lt
            have d9' : NdB (w.heap.size + 1) w9 n9 _ := ndb_mono d9 (by omega)
            clear h8 q48 q58 bs8 b9 F9 d9 e0 e1 e2 e3
            obtain ⟨a0, a1, a2, a3, a4, a5, f0, f1, f2, f3', f4, f5⟩ := id u4
            go_wp2_with fail
            obtain ⟨W, hW, sx, hz, hk, hbb⟩ := u4.set (.string y0) (.string y1) (.string y2) (.int .i64 ym) (.int .i64 yp) (.slice ya yl yc)
            rw [hW]
            obtain ⟨c0, c1, c2, c3, c4, c5, -⟩ := id sx
            refine bodyPost_ret (v := .agg #[.string y0, .string y1, .string y2, .int .i64 ym, .int .i64 yp, .slice ya yl yc]) (by simp [results, Tryd.results89, go_sem, c0, c1, c2, c3, c4, c5]) rfl ?_
            refine ⟨_, n9, s9, rfl, ndb_mono (ndb_set d9' (by omega) hz hk) (by omega), h9.set hz hk (by omega) (by omega), hbb pb w bs9 (Nat.le_refl _), HFI.out _ _ ?_⟩
            show Fits (atomS C A (t :: r)) _ _
            rw [HAT.out]
            exact HF9.out
          | false =>
            rw [eatS_f hq.symm] at h8
            have HN4 : Hid (isWS [40] s1 = false) := hq.symm
            clear hq
            have HAT : Hid (Fits (thn s1 (atomS C A)) (.mk [] [] [] 0 0 []) (failS 2 s1)) := by
              cases s1 with
              | error e => rfl
              | ok L =>
                cases L with
                | nil => rfl
                | cons x r =>
                  have : x = t := HNW.out
                  subst this
                  show Fits (atomS C A (x :: r)) _ _
                  have HW0 : isW [116, 114, 117, 101] (x :: r) = false := HN0.out
                  have HW1 : isW [102, 97, 108, 115, 101] (x :: r) = false := HN1.out
                  have HW2 : isW [33] (x :: r) = false := HN2.out
                  have HW3 : isW [91] (x :: r) = false := HN3.out
                  have HW4 : isW [40] (x :: r) = false := HN4.out
                  have e : atomS C A (x :: r) = .error (2, x.pos) := by simp [atomS, HK.out.1, HK.out.2.1, HK.out.2.2, HW0, HW1, HW2, HW3, HW4]
                  rw [e]
                  rfl
            go_wp2_with fail
            refine (pfail_any pb tb s1 _ 2 h8 (by omega) (by omega)).mono ?_
            rintro e w9 ⟨rfl, h9, b9⟩
            have u4 := q48.bes b9 (by omega)
            have bs9 := bs8.trans b9
            clear h8 q48 q58 bs8 b9
            obtain ⟨a0, a1, a2, a3, a4, a5, f0, f1, f2, f3', f4, f5⟩ := id u4
            go_wp2_with fail
            obtain ⟨W, hW, sx, hz, hk, hbb⟩ := u4.set (.string ⟨#[]⟩) (.string ⟨#[]⟩) (.string ⟨#[]⟩) (.int .i64 0) (.int .i64 0) (.slice none 0 0)
            rw [hW]
            obtain ⟨c0, c1, c2, c3, c4, c5, -⟩ := id sx
            refine bodyPost_ret (v := .agg #[.string ⟨#[]⟩, .string ⟨#[]⟩, .string ⟨#[]⟩, .int .i64 0, .int .i64 0, .slice none 0 0]) (by simp [results, Tryd.results89, go_sem, c0, c1, c2, c3, c4, c5]) rfl ?_
            exact ⟨_, .mk [] [] [] 0 0 [], failS 2 s1, rfl, isNdP_leaf (op := []) (nm := []) (ar := []) txt_nil txt_nil txt_nil i64_zero i64_zero, h9.set hz hk (by omega) (by omega), hbb pb w bs9 (Nat.le_refl _), HFI.out _ _ HAT.out⟩
end Go.Proofs.YtoekhejpompjlaaDoor

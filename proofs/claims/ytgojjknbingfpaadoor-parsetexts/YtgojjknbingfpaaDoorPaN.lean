/- What 'expr' of the program's parser answers. -/
import Derived.Test.YtgojjknbingfpaaDoorPaM
namespace Go.Proofs.YtgojjknbingfpaaDoor
open Go.RowKit Go.Em5 Go.Em6
set_option linter.unusedSimpArgs false

set_option maxRecDepth 100000 in
set_option maxHeartbeats 4000000 in
theorem qexpr_does (d : Nat) (S E : List Em4.Tok → R) (hSq : DoesP 34 d (seqS S E)) (hE : d < 40 → DoesP 55 d E) : DoesP 16 d (exprS S E) := by
  intro s w pb tb h
  have HH : Hid (IsPs w pb tb d s) := h
  have HSQ : Hid (DoesP 34 d (seqS S E)) := hSq
  have HEE : Hid (d < 40 → DoesP 55 d E) := hE
  obtain ⟨hlp, hlt, hne, -⟩ := h.lt
  have htk := h.1.now
  obtain ⟨t, htd⟩ : ∃ t, t = peekS s := ⟨_, rfl⟩
  have HT : Hid (peekS s = t) := htd.symm
  rw [← htd] at htk
  have hpos : t.pos ≤ 140737488351232 := htk.2.2.1
  have f3 := fld3 t.kind (Em.str t.text) t.num t.pos
  have z4 := Six.made w (.string ⟨#[]⟩) (.string ⟨#[]⟩) (.string ⟨#[]⟩) (.int .i64 0) (.int .i64 0) (.slice none 0 0) 24
  clear htd h hSq hE htk
  go_enter Tryd.func16, Tryd.ntmps16
  go_wp2_with fail
  refine (qpeek_any pb tb d s _ (HH.out.alloc _).1).mono ?_
  rintro e w1 ⟨rfl, hb1⟩
  rw [HT.out]
  simp only [Em6.tokV]
  have h1 := ((HH.out.alloc _).below hb1).alloc (.cells #[.string ⟨#[]⟩, .string ⟨#[]⟩, .string ⟨#[]⟩, .int .i64 0, .int .i64 t.pos, .slice none 0 0] 24)
  have q1 := (z4.below hb1).alloc (.cells #[.string ⟨#[]⟩, .string ⟨#[]⟩, .string ⟨#[]⟩, .int .i64 0, .int .i64 t.pos, .slice none 0 0] 24)
  have bs1 : Bes pb w (w1.alloc (.cells #[.string ⟨#[]⟩, .string ⟨#[]⟩, .string ⟨#[]⟩, .int .i64 0, .int .i64 t.pos, .slice none 0 0] 24)) := (((Bes.refl pb w).alloc _).trans (Bes.of hb1)).alloc _
  have gq := (z4.below hb1).lt
  have v1 : KV 24 (w1.alloc (.cells #[.string ⟨#[]⟩, .string ⟨#[]⟩, .string ⟨#[]⟩, .int .i64 0, .int .i64 t.pos, .slice none 0 0] 24)) w1.heap.size [] [] [] t.pos [] := ⟨none, 0, Six.made w1 _ _ _ _ _ _ _, OwnNds.nil _ _ _ _⟩
  have hpg : pb < w1.heap.size := by omega
  have htg : tb < w1.heap.size := by omega
  clear z4 hb1
  go_wp2_with fail
  refine (qform_any pb tb d s _ h1).mono ?_
  rintro e wF ⟨rfl, hF, bF⟩
  obtain ⟨oa, hoa0⟩ : ∃ o, o = (formS s).1 := ⟨_, rfl⟩
  have HOA0 : Hid (oa = (formS s).1) := hoa0
  rw [← hoa0]
  have vF := v1.bes bF hpg
  have qF := q1.bes bF (by omega)
  have bsF := bs1.trans bF
  have gF := vF.lt
  clear hoa0 h1 q1 bs1 v1 bF
  obtain ⟨aF, capF, sxF, oxF⟩ := vF
  obtain ⟨w2, hW2, s2, hz2, hk2, hb2⟩ := sxF.set0 (.string (Em.str oa))
  obtain ⟨kc0, -, -, -, -, -, kf0, -⟩ := id sxF
  have v2 : KV 24 w2 w1.heap.size oa [] [] t.pos [] := KV.put oxF s2 hz2 hk2
  have q2 := qF.far hk2 (by omega)
  have h2 := hF.set hz2 hk2 (by omega) (by omega)
  have bs2 := hb2 pb w bsF (by omega)
  have g2 := v2.lt
  clear s2 oxF sxF hF qF bsF hb2 hk2
  rcases form_cases s with hcs | ⟨t1, t2, r, rfl, hk4, htx, hk5, htx2, hfs⟩ | ⟨t1, r, rfl, hk4, htx, hrc, hfs⟩ | ⟨t1, r, rfl, hk4, htx, hfs⟩ | ⟨t1, r, rfl, hk4, htx, hfs⟩ | ⟨t1, r, rfl, hk4, htx, hfs⟩ | ⟨t1, r, rfl, hk4, htx, hfs⟩
  · have hfs := hcs.1
    have hoa : oa = [] := by rw [HOA0.out, hfs]
    rw [hfs] at h2
    have qs0 : ((Em.str oa).toList == [114, 101, 99]) = false := by rw [hoa]; exact (Em5.str_eq (by decide) _).trans (by decide)
    have qs1 : ((Em.str oa).toList == [108, 101, 116]) = false := by rw [hoa]; exact (Em5.str_eq (by decide) _).trans (by decide)
    have qs2 : ((Em.str oa).toList == [105, 102]) = false := by rw [hoa]; exact (Em5.str_eq (by decide) _).trans (by decide)
    have qs3 : ((Em.str oa).toList == [109, 97, 116, 99, 104]) = false := by rw [hoa]; exact (Em5.str_eq (by decide) _).trans (by decide)
    have qs4 : ((Em.str oa).toList == [116, 114, 121]) = false := by rw [hoa]; exact (Em5.str_eq (by decide) _).trans (by decide)
    have qs5 : ((Em.str oa).toList == [102, 117, 110]) = false := by rw [hoa]; exact (Em5.str_eq (by decide) _).trans (by decide)
    have HEQ : Hid (thn s (exprS S E) = thn s (seqS S E)) := expr_seq hcs
    clear hoa hfs hcs
    obtain ⟨_, _, ⟨cOp, -⟩, -⟩ := id v2
    go_wp2_with fail
    refine (HSQ.out s _ pb tb h2).mono ?_
    rintro e w3 ⟨v3, n3, s3, rfl, d3, h3, b3, F3⟩
    obtain ⟨y0, y1, y2, ym, yp, ya, yl, yc, rfl⟩ := ndb_shape d3
    have q3 := q2.bes b3 (by omega)
    have bs3 := bs2.trans b3
    have gs3 := b3.size
    have HF3 : Hid (Fits (thn s (seqS S E)) n3 s3) := F3
    clear F3 b3
    obtain ⟨a0, a1, a2, a3, a4, a5, ff0, ff1, ff2, ff3, ff4, ff5⟩ := id q3
    obtain ⟨W, hW, sy, hz, hk, hbb⟩ := q3.set (.string y0) (.string y1) (.string y2) (.int .i64 ym) (.int .i64 yp) (.slice ya yl yc)
    go_wp2_with fail
    obtain ⟨c0, c1, c2, c3, c4, c5, -⟩ := id sy
    refine bodyPost_ret (v := .agg #[.string y0, .string y1, .string y2, .int .i64 ym, .int .i64 yp, .slice ya yl yc]) (by simp [results, Tryd.results16, go_sem, c0, c1, c2, c3, c4, c5]) rfl ?_
    exact ⟨_, n3, s3, rfl, ndb_mono (ndb_set d3 (by omega) hz hk) (by omega), h3.set hz hk (by omega) (by omega), hbb pb w bs3 (by omega), by rw [HEQ.out]; exact HF3.out⟩
  · have e1 : t = t1 := HT.out.symm
    subst e1
    have HXE : Hid (exprS S E (t :: t2 :: r) = bnd (name r) fun x L1 => bnd (name L1) fun y L2 => letT E [114, 101, 99] x y t.pos L2) := by rw [Hid]; simp [exprS, letS, isW, posL, hk4, htx, hk5, htx2]
    clear hk5 htx2
    clear hk4 htx
    have hoa : oa = [114, 101, 99] := by rw [HOA0.out, hfs]
    rw [hfs] at h2
    have qs0 : ((Em.str oa).toList == [114, 101, 99]) = true := by rw [hoa]; exact (Em5.str_eq (by decide) _).trans (by decide)
    have qs1 : ((Em.str oa).toList == [108, 101, 116]) = false := by rw [hoa]; exact (Em5.str_eq (by decide) _).trans (by decide)
    have qs2 : ((Em.str oa).toList == [105, 102]) = false := by rw [hoa]; exact (Em5.str_eq (by decide) _).trans (by decide)
    have qs3 : ((Em.str oa).toList == [109, 97, 116, 99, 104]) = false := by rw [hoa]; exact (Em5.str_eq (by decide) _).trans (by decide)
    have qs4 : ((Em.str oa).toList == [116, 114, 121]) = false := by rw [hoa]; exact (Em5.str_eq (by decide) _).trans (by decide)
    have qs5 : ((Em.str oa).toList == [102, 117, 110]) = false := by rw [hoa]; exact (Em5.str_eq (by decide) _).trans (by decide)
    have HOA : Hid (oa = [114, 101, 99]) := hoa
    have HTX : Hid (Txt oa) := by rw [Hid, hoa]; exact ⟨by decide, by decide⟩
    have HE : Hid (DoesP 55 d E) := HEE.out h2.2
    clear hoa hfs
    obtain ⟨_, _, ⟨cOp, -⟩, -⟩ := id v2
    have tx3 := nameS_txt h2.1
    have HPN : Hid (IsPr w2 pb tb d (.ok r)) := h2.1
    go_wp2_with fail
    refine (qname_any d _ pb tb (w1.heap.size) _ h2 hpg htg _ _ txt_nil _ _ v2).mono ?_
    rintro e w3 ⟨rfl, h3, v3, hB3⟩
    rw [nmA_nil] at v3
    have q3 := hB3.six q2 (by omega) (by omega)
    have bs3 := hB3.bes bs2 (by omega)
    clear q2 bs2 hB3
    clear h2 v2 cOp
    obtain ⟨_, _, ⟨cOp, -⟩, -⟩ := id v3
    have tx4 := nameS_txt h3.1
    go_wp2_with fail
    refine (qname_any d _ pb tb (w1.heap.size) _ h3 hpg htg _ _ tx3 _ _ v3).mono ?_
    rintro e w4 ⟨rfl, h4, v4, hB4⟩
    rw [nmA_two (fun hx => nameS_nil HPN.out hx)] at v4
    have q4 := hB4.six q3 (by omega) (by omega)
    have bs4 := hB4.bes bs3 (by omega)
    clear q3 bs3 hB4
    clear h3 v3 cOp
    obtain ⟨_, _, ⟨cOp, -⟩, -⟩ := id v4
    go_wp2_with fail
    refine (qmust_any pb tb d _ [61] _ h4 (by decide) (by decide)).mono ?_
    rintro e w5 ⟨rfl, h5, b5⟩
    have v5 := v4.bes b5 hpg
    have gz5 := v4.lt
    have hB5 := BesB.of b5 (show w1.heap.size ≤ w4.heap.size by omega)
    have q5 := hB5.six q4 (by omega) (by omega)
    have bs5 := hB5.bes bs4 (by omega)
    clear q4 bs4 hB5
    clear h4 v4 cOp b5
    obtain ⟨_, _, ⟨cOp, -⟩, -⟩ := id v5
    go_wp2_with fail
    refine (qkid_any d E HE.out _ pb tb (w1.heap.size) _ h5 hpg htg _ _ _ _ _ (by simp) v5).mono ?_
    rintro e w6 ⟨rfl, n1, sK1, h6, v6, hB6, FK1'⟩
    have FK1 : Hid (Fits (thn _ E) n1 sK1) := FK1'
    (try simp only [List.nil_append, List.cons_append] at v6)
    clear FK1'
    have q6 := hB6.six q5 (by omega) (by omega)
    have bs6 := hB6.bes bs5 (by omega)
    clear q5 bs5 hB6
    clear h5 v5 cOp
    obtain ⟨_, _, ⟨cOp, -⟩, -⟩ := id v6
    go_wp2_with fail
    refine (qmust_any pb tb d _ [105, 110] _ h6 (by decide) (by decide)).mono ?_
    rintro e w7 ⟨rfl, h7, b7⟩
    have v7 := v6.bes b7 hpg
    have gz7 := v6.lt
    have hB7 := BesB.of b7 (show w1.heap.size ≤ w6.heap.size by omega)
    have q7 := hB7.six q6 (by omega) (by omega)
    have bs7 := hB7.bes bs6 (by omega)
    clear q6 bs6 hB7
    clear h6 v6 cOp b7
    obtain ⟨_, _, ⟨cOp, -⟩, -⟩ := id v7
    go_wp2_with fail
    refine (qkid_any d E HE.out _ pb tb (w1.heap.size) _ h7 hpg htg _ _ _ _ _ (by simp) v7).mono ?_
    rintro e w8 ⟨rfl, n2, sK2, h8, v8, hB8, FK2'⟩
    have FK2 : Hid (Fits (thn _ E) n2 sK2) := FK2'
    (try simp only [List.nil_append, List.cons_append] at v8)
    clear FK2'
    have q8 := hB8.six q7 (by omega) (by omega)
    have bs8 := hB8.bes bs7 (by omega)
    clear q7 bs7 hB8
    clear h7 v7 cOp
    obtain ⟨a, cap, sx', dx'⟩ := v8.node HTX.out tx3 tx4 hpos
    have sx : Six w8 w1.heap.size (.string (Em.str oa)) (.string (Em.str (nameS (.ok r)).1)) (.string (Em.str (nameS (nameS (.ok r)).2).1)) (.int .i64 0) (.int .i64 t.pos) (.slice a 2 cap) := sx'
    have dx : NdB (w1.heap.size + 1) w8 (.mk oa (nameS (.ok r)).1 (nameS (nameS (.ok r)).2).1 0 t.pos [n1, n2]) (.agg #[.string (Em.str oa), .string (Em.str (nameS (.ok r)).1), .string (Em.str (nameS (nameS (.ok r)).2).1), .int .i64 0, .int .i64 t.pos, .slice a 2 cap]) := dx'
    have gf := v8.lt
    clear sx' dx' v8
    obtain ⟨c0, c1, c2, c3, c4, c5, -⟩ := id sx
    obtain ⟨a0, a1, a2, a3, a4, a5, ff0, ff1, ff2, ff3, ff4, ff5⟩ := id q8
    obtain ⟨W, hW, sy, hz, hk, hbb⟩ := q8.set (.string (Em.str oa)) (.string (Em.str (nameS (.ok r)).1)) (.string (Em.str (nameS (nameS (.ok r)).2).1)) (.int .i64 0) (.int .i64 t.pos) (.slice a 2 cap)
    go_wp2_with fail
    obtain ⟨c0, c1, c2, c3, c4, c5, -⟩ := id sy
    refine bodyPost_ret (v := .agg #[.string (Em.str oa), .string (Em.str (nameS (.ok r)).1), .string (Em.str (nameS (nameS (.ok r)).2).1), .int .i64 0, .int .i64 t.pos, .slice a 2 cap]) (by simp [results, Tryd.results16, go_sem, c0, c1, c2, c3, c4, c5]) rfl ?_
    refine ⟨_, .mk oa (nameS (.ok r)).1 (nameS (nameS (.ok r)).2).1 0 t.pos [n1, n2], _, rfl, ndb_mono (ndb_set dx (by omega) hz hk) (by omega), h8.set hz hk (by omega) (by omega), hbb pb w bs8 (by omega), ?_⟩
    show Fits (exprS S E (t :: t2 :: r)) _ _
    rw [HXE.out, HOA.out]
    show Fits (thn (.ok r) fun L => bnd (name L) fun x L1 => bnd (name L1) fun y L2 => letT E [114, 101, 99] x y t.pos L2) _ _
    rw [thn_name, thn_name]
    unfold letT
    rw [thn_need]
    refine fits_thn FK1.out ?_
    rw [thn_need]
    exact fits_thn FK2.out fits_ok
  · have e1 : t = t1 := HT.out.symm
    subst e1
    have HXE : Hid (exprS S E (t :: r) = bnd (name r) fun x L1 => letT E [108, 101, 116] x [] t.pos L1) := by rw [Hid]; have e9 : isW [108, 101, 116] (t :: r) = true := (by simp [isW, hk4, htx]); unfold exprS; rw [if_pos e9]; show letS E t.pos r = _; unfold letS; rw [if_neg (by rw [hrc]; decide)]
    clear hrc
    clear hk4 htx
    have hoa : oa = [108, 101, 116] := by rw [HOA0.out, hfs]
    rw [hfs] at h2
    have qs0 : ((Em.str oa).toList == [114, 101, 99]) = false := by rw [hoa]; exact (Em5.str_eq (by decide) _).trans (by decide)
    have qs1 : ((Em.str oa).toList == [108, 101, 116]) = true := by rw [hoa]; exact (Em5.str_eq (by decide) _).trans (by decide)
    have qs2 : ((Em.str oa).toList == [105, 102]) = false := by rw [hoa]; exact (Em5.str_eq (by decide) _).trans (by decide)
    have qs3 : ((Em.str oa).toList == [109, 97, 116, 99, 104]) = false := by rw [hoa]; exact (Em5.str_eq (by decide) _).trans (by decide)
    have qs4 : ((Em.str oa).toList == [116, 114, 121]) = false := by rw [hoa]; exact (Em5.str_eq (by decide) _).trans (by decide)
    have qs5 : ((Em.str oa).toList == [102, 117, 110]) = false := by rw [hoa]; exact (Em5.str_eq (by decide) _).trans (by decide)
    have HOA : Hid (oa = [108, 101, 116]) := hoa
    have HTX : Hid (Txt oa) := by rw [Hid, hoa]; exact ⟨by decide, by decide⟩
    have HE : Hid (DoesP 55 d E) := HEE.out h2.2
    clear hoa hfs
    obtain ⟨_, _, ⟨cOp, -⟩, -⟩ := id v2
    have tx3 := nameS_txt h2.1
    go_wp2_with fail
    refine (qname_any d _ pb tb (w1.heap.size) _ h2 hpg htg _ _ txt_nil _ _ v2).mono ?_
    rintro e w3 ⟨rfl, h3, v3, hB3⟩
    rw [nmA_nil] at v3
    have q3 := hB3.six q2 (by omega) (by omega)
    have bs3 := hB3.bes bs2 (by omega)
    clear q2 bs2 hB3
    clear h2 v2 cOp
    obtain ⟨_, _, ⟨cOp, -⟩, -⟩ := id v3
    go_wp2_with fail
    refine (qmust_any pb tb d _ [61] _ h3 (by decide) (by decide)).mono ?_
    rintro e w4 ⟨rfl, h4, b4⟩
    have v4 := v3.bes b4 hpg
    have gz4 := v3.lt
    have hB4 := BesB.of b4 (show w1.heap.size ≤ w3.heap.size by omega)
    have q4 := hB4.six q3 (by omega) (by omega)
    have bs4 := hB4.bes bs3 (by omega)
    clear q3 bs3 hB4
    clear h3 v3 cOp b4
    obtain ⟨_, _, ⟨cOp, -⟩, -⟩ := id v4
    go_wp2_with fail
    refine (qkid_any d E HE.out _ pb tb (w1.heap.size) _ h4 hpg htg _ _ _ _ _ (by simp) v4).mono ?_
    rintro e w5 ⟨rfl, n1, sK1, h5, v5, hB5, FK1'⟩
    have FK1 : Hid (Fits (thn _ E) n1 sK1) := FK1'
    (try simp only [List.nil_append, List.cons_append] at v5)
    clear FK1'
    have q5 := hB5.six q4 (by omega) (by omega)
    have bs5 := hB5.bes bs4 (by omega)
    clear q4 bs4 hB5
    clear h4 v4 cOp
    obtain ⟨_, _, ⟨cOp, -⟩, -⟩ := id v5
    go_wp2_with fail
    refine (qmust_any pb tb d _ [105, 110] _ h5 (by decide) (by decide)).mono ?_
    rintro e w6 ⟨rfl, h6, b6⟩
    have v6 := v5.bes b6 hpg
    have gz6 := v5.lt
    have hB6 := BesB.of b6 (show w1.heap.size ≤ w5.heap.size by omega)
    have q6 := hB6.six q5 (by omega) (by omega)
    have bs6 := hB6.bes bs5 (by omega)
    clear q5 bs5 hB6
    clear h5 v5 cOp b6
    obtain ⟨_, _, ⟨cOp, -⟩, -⟩ := id v6
    go_wp2_with fail
    refine (qkid_any d E HE.out _ pb tb (w1.heap.size) _ h6 hpg htg _ _ _ _ _ (by simp) v6).mono ?_
    rintro e w7 ⟨rfl, n2, sK2, h7, v7, hB7, FK2'⟩
    have FK2 : Hid (Fits (thn _ E) n2 sK2) := FK2'
    (try simp only [List.nil_append, List.cons_append] at v7)
    clear FK2'
    have q7 := hB7.six q6 (by omega) (by omega)
    have bs7 := hB7.bes bs6 (by omega)
    clear q6 bs6 hB7
    clear h6 v6 cOp
    obtain ⟨a, cap, sx', dx'⟩ := v7.node HTX.out tx3 txt_nil hpos
    have sx : Six w7 w1.heap.size (.string (Em.str oa)) (.string (Em.str (nameS (.ok r)).1)) (.string (Em.str [])) (.int .i64 0) (.int .i64 t.pos) (.slice a 2 cap) := sx'
    have dx : NdB (w1.heap.size + 1) w7 (.mk oa (nameS (.ok r)).1 [] 0 t.pos [n1, n2]) (.agg #[.string (Em.str oa), .string (Em.str (nameS (.ok r)).1), .string (Em.str []), .int .i64 0, .int .i64 t.pos, .slice a 2 cap]) := dx'
    have gf := v7.lt
    clear sx' dx' v7
    obtain ⟨c0, c1, c2, c3, c4, c5, -⟩ := id sx
    obtain ⟨a0, a1, a2, a3, a4, a5, ff0, ff1, ff2, ff3, ff4, ff5⟩ := id q7
    obtain ⟨W, hW, sy, hz, hk, hbb⟩ := q7.set (.string (Em.str oa)) (.string (Em.str (nameS (.ok r)).1)) (.string (Em.str [])) (.int .i64 0) (.int .i64 t.pos) (.slice a 2 cap)
    go_wp2_with fail
    obtain ⟨c0, c1, c2, c3, c4, c5, -⟩ := id sy
    refine bodyPost_ret (v := .agg #[.string (Em.str oa), .string (Em.str (nameS (.ok r)).1), .string (Em.str []), .int .i64 0, .int .i64 t.pos, .slice a 2 cap]) (by simp [results, Tryd.results16, go_sem, c0, c1, c2, c3, c4, c5]) rfl ?_
    refine ⟨_, .mk oa (nameS (.ok r)).1 [] 0 t.pos [n1, n2], _, rfl, ndb_mono (ndb_set dx (by omega) hz hk) (by omega), h7.set hz hk (by omega) (by omega), hbb pb w bs7 (by omega), ?_⟩
    show Fits (exprS S E (t :: r)) _ _
    rw [HXE.out, HOA.out]
    show Fits (thn (.ok r) fun L => bnd (name L) fun x L1 => letT E [108, 101, 116] x [] t.pos L1) _ _
    rw [thn_name]
    unfold letT
    rw [thn_need]
    refine fits_thn FK1.out ?_
    rw [thn_need]
    exact fits_thn FK2.out fits_ok
  · have e1 : t = t1 := HT.out.symm
    subst e1
    have HXE : Hid (exprS S E (t :: r) = bnd (name r) fun x L1 => bnd0 (need [45, 62] L1) fun L2 => bnd (E L2) fun a L3 => .ok (.mk [102, 117, 110] x [] 0 t.pos [a], L3)) := by rw [Hid]; simp [exprS, isW, posL, hk4, htx]
    clear hk4 htx
    have hoa : oa = [102, 117, 110] := by rw [HOA0.out, hfs]
    rw [hfs] at h2
    have qs0 : ((Em.str oa).toList == [114, 101, 99]) = false := by rw [hoa]; exact (Em5.str_eq (by decide) _).trans (by decide)
    have qs1 : ((Em.str oa).toList == [108, 101, 116]) = false := by rw [hoa]; exact (Em5.str_eq (by decide) _).trans (by decide)
    have qs2 : ((Em.str oa).toList == [105, 102]) = false := by rw [hoa]; exact (Em5.str_eq (by decide) _).trans (by decide)
    have qs3 : ((Em.str oa).toList == [109, 97, 116, 99, 104]) = false := by rw [hoa]; exact (Em5.str_eq (by decide) _).trans (by decide)
    have qs4 : ((Em.str oa).toList == [116, 114, 121]) = false := by rw [hoa]; exact (Em5.str_eq (by decide) _).trans (by decide)
    have qs5 : ((Em.str oa).toList == [102, 117, 110]) = true := by rw [hoa]; exact (Em5.str_eq (by decide) _).trans (by decide)
    have HOA : Hid (oa = [102, 117, 110]) := hoa
    have HTX : Hid (Txt oa) := by rw [Hid, hoa]; exact ⟨by decide, by decide⟩
    have HE : Hid (DoesP 55 d E) := HEE.out h2.2
    clear hoa hfs
    obtain ⟨_, _, ⟨cOp, -⟩, -⟩ := id v2
    have tx3 := nameS_txt h2.1
    go_wp2_with fail
    refine (qname_any d _ pb tb (w1.heap.size) _ h2 hpg htg _ _ txt_nil _ _ v2).mono ?_
    rintro e w3 ⟨rfl, h3, v3, hB3⟩
    rw [nmA_nil] at v3
    have q3 := hB3.six q2 (by omega) (by omega)
    have bs3 := hB3.bes bs2 (by omega)
    clear q2 bs2 hB3
    clear h2 v2 cOp
    obtain ⟨_, _, ⟨cOp, -⟩, -⟩ := id v3
    go_wp2_with fail
    refine (qmust_any pb tb d _ [45, 62] _ h3 (by decide) (by decide)).mono ?_
    rintro e w4 ⟨rfl, h4, b4⟩
    have v4 := v3.bes b4 hpg
    have gz4 := v3.lt
    have hB4 := BesB.of b4 (show w1.heap.size ≤ w3.heap.size by omega)
    have q4 := hB4.six q3 (by omega) (by omega)
    have bs4 := hB4.bes bs3 (by omega)
    clear q3 bs3 hB4
    clear h3 v3 cOp b4
    obtain ⟨_, _, ⟨cOp, -⟩, -⟩ := id v4
    go_wp2_with fail
    refine (qkid_any d E HE.out _ pb tb (w1.heap.size) _ h4 hpg htg _ _ _ _ _ (by simp) v4).mono ?_
    rintro e w5 ⟨rfl, n1, sK1, h5, v5, hB5, FK1'⟩
    have FK1 : Hid (Fits (thn _ E) n1 sK1) := FK1'
    (try simp only [List.nil_append, List.cons_append] at v5)
    clear FK1'
    have q5 := hB5.six q4 (by omega) (by omega)
    have bs5 := hB5.bes bs4 (by omega)
    clear q4 bs4 hB5
    clear h4 v4 cOp
    obtain ⟨a, cap, sx', dx'⟩ := v5.node HTX.out tx3 txt_nil hpos
    have sx : Six w5 w1.heap.size (.string (Em.str oa)) (.string (Em.str (nameS (.ok r)).1)) (.string (Em.str [])) (.int .i64 0) (.int .i64 t.pos) (.slice a 1 cap) := sx'
    have dx : NdB (w1.heap.size + 1) w5 (.mk oa (nameS (.ok r)).1 [] 0 t.pos [n1]) (.agg #[.string (Em.str oa), .string (Em.str (nameS (.ok r)).1), .string (Em.str []), .int .i64 0, .int .i64 t.pos, .slice a 1 cap]) := dx'
    have gf := v5.lt
    clear sx' dx' v5
    obtain ⟨c0, c1, c2, c3, c4, c5, -⟩ := id sx
    obtain ⟨a0, a1, a2, a3, a4, a5, ff0, ff1, ff2, ff3, ff4, ff5⟩ := id q5
    obtain ⟨W, hW, sy, hz, hk, hbb⟩ := q5.set (.string (Em.str oa)) (.string (Em.str (nameS (.ok r)).1)) (.string (Em.str [])) (.int .i64 0) (.int .i64 t.pos) (.slice a 1 cap)
    go_wp2_with fail
    obtain ⟨c0, c1, c2, c3, c4, c5, -⟩ := id sy
    refine bodyPost_ret (v := .agg #[.string (Em.str oa), .string (Em.str (nameS (.ok r)).1), .string (Em.str []), .int .i64 0, .int .i64 t.pos, .slice a 1 cap]) (by simp [results, Tryd.results16, go_sem, c0, c1, c2, c3, c4, c5]) rfl ?_
    refine ⟨_, .mk oa (nameS (.ok r)).1 [] 0 t.pos [n1], _, rfl, ndb_mono (ndb_set dx (by omega) hz hk) (by omega), h5.set hz hk (by omega) (by omega), hbb pb w bs5 (by omega), ?_⟩
    show Fits (exprS S E (t :: r)) _ _
    rw [HXE.out, HOA.out]
    show Fits (thn (.ok r) fun L => bnd (name L) fun x L1 => bnd0 (need [45, 62] L1) fun L2 => bnd (E L2) fun a L3 => .ok (.mk [102, 117, 110] x [] 0 t.pos [a], L3)) _ _
    rw [thn_name, thn_need]
    exact fits_thn FK1.out fits_ok
  · have e1 : t = t1 := HT.out.symm
    subst e1
    have HXE : Hid (exprS S E (t :: r) = bnd (E r) fun a L1 => bnd0 (need [116, 104, 101, 110] L1) fun L2 => bnd (E L2) fun b L3 => bnd0 (need [101, 108, 115, 101] L3) fun L4 => bnd (E L4) fun c L5 => .ok (nd [105, 102] t.pos [a, b, c], L5)) := by rw [Hid]; simp [exprS, isW, posL, hk4, htx]
    clear hk4 htx
    have hoa : oa = [105, 102] := by rw [HOA0.out, hfs]
    rw [hfs] at h2
    have qs0 : ((Em.str oa).toList == [114, 101, 99]) = false := by rw [hoa]; exact (Em5.str_eq (by decide) _).trans (by decide)
    have qs1 : ((Em.str oa).toList == [108, 101, 116]) = false := by rw [hoa]; exact (Em5.str_eq (by decide) _).trans (by decide)
    have qs2 : ((Em.str oa).toList == [105, 102]) = true := by rw [hoa]; exact (Em5.str_eq (by decide) _).trans (by decide)
    have qs3 : ((Em.str oa).toList == [109, 97, 116, 99, 104]) = false := by rw [hoa]; exact (Em5.str_eq (by decide) _).trans (by decide)
    have qs4 : ((Em.str oa).toList == [116, 114, 121]) = false := by rw [hoa]; exact (Em5.str_eq (by decide) _).trans (by decide)
    have qs5 : ((Em.str oa).toList == [102, 117, 110]) = false := by rw [hoa]; exact (Em5.str_eq (by decide) _).trans (by decide)
    have HOA : Hid (oa = [105, 102]) := hoa
    have HTX : Hid (Txt oa) := by rw [Hid, hoa]; exact ⟨by decide, by decide⟩
    have HE : Hid (DoesP 55 d E) := HEE.out h2.2
    clear hoa hfs
    obtain ⟨_, _, ⟨cOp, -⟩, -⟩ := id v2
    go_wp2_with fail
    refine (qkid_any d E HE.out _ pb tb (w1.heap.size) _ h2 hpg htg _ _ _ _ _ (by simp) v2).mono ?_
    rintro e w3 ⟨rfl, n1, sK1, h3, v3, hB3, FK1'⟩
    have FK1 : Hid (Fits (thn _ E) n1 sK1) := FK1'
    (try simp only [List.nil_append, List.cons_append] at v3)
    clear FK1'
    have q3 := hB3.six q2 (by omega) (by omega)
    have bs3 := hB3.bes bs2 (by omega)
    clear q2 bs2 hB3
    clear h2 v2 cOp
    obtain ⟨_, _, ⟨cOp, -⟩, -⟩ := id v3
    go_wp2_with fail
    refine (qmust_any pb tb d _ [116, 104, 101, 110] _ h3 (by decide) (by decide)).mono ?_
    rintro e w4 ⟨rfl, h4, b4⟩
    have v4 := v3.bes b4 hpg
    have gz4 := v3.lt
    have hB4 := BesB.of b4 (show w1.heap.size ≤ w3.heap.size by omega)
    have q4 := hB4.six q3 (by omega) (by omega)
    have bs4 := hB4.bes bs3 (by omega)
    clear q3 bs3 hB4
    clear h3 v3 cOp b4
    obtain ⟨_, _, ⟨cOp, -⟩, -⟩ := id v4
    go_wp2_with fail
    refine (qkid_any d E HE.out _ pb tb (w1.heap.size) _ h4 hpg htg _ _ _ _ _ (by simp) v4).mono ?_
    rintro e w5 ⟨rfl, n2, sK2, h5, v5, hB5, FK2'⟩
    have FK2 : Hid (Fits (thn _ E) n2 sK2) := FK2'
    (try simp only [List.nil_append, List.cons_append] at v5)
    clear FK2'
    have q5 := hB5.six q4 (by omega) (by omega)
    have bs5 := hB5.bes bs4 (by omega)
    clear q4 bs4 hB5
    clear h4 v4 cOp
    obtain ⟨_, _, ⟨cOp, -⟩, -⟩ := id v5
    go_wp2_with fail
    refine (qmust_any pb tb d _ [101, 108, 115, 101] _ h5 (by decide) (by decide)).mono ?_
    rintro e w6 ⟨rfl, h6, b6⟩
    have v6 := v5.bes b6 hpg
    have gz6 := v5.lt
    have hB6 := BesB.of b6 (show w1.heap.size ≤ w5.heap.size by omega)
    have q6 := hB6.six q5 (by omega) (by omega)
    have bs6 := hB6.bes bs5 (by omega)
    clear q5 bs5 hB6
    clear h5 v5 cOp b6
    obtain ⟨_, _, ⟨cOp, -⟩, -⟩ := id v6
    go_wp2_with fail
    refine (qkid_any d E HE.out _ pb tb (w1.heap.size) _ h6 hpg htg _ _ _ _ _ (by simp) v6).mono ?_
    rintro e w7 ⟨rfl, n3, sK3, h7, v7, hB7, FK3'⟩
    have FK3 : Hid (Fits (thn _ E) n3 sK3) := FK3'
    (try simp only [List.nil_append, List.cons_append] at v7)
    clear FK3'
    have q7 := hB7.six q6 (by omega) (by omega)
    have bs7 := hB7.bes bs6 (by omega)
    clear q6 bs6 hB7
    clear h6 v6 cOp
    obtain ⟨a, cap, sx', dx'⟩ := v7.node HTX.out txt_nil txt_nil hpos
    have sx : Six w7 w1.heap.size (.string (Em.str oa)) (.string (Em.str [])) (.string (Em.str [])) (.int .i64 0) (.int .i64 t.pos) (.slice a 3 cap) := sx'
    have dx : NdB (w1.heap.size + 1) w7 (.mk oa [] [] 0 t.pos [n1, n2, n3]) (.agg #[.string (Em.str oa), .string (Em.str []), .string (Em.str []), .int .i64 0, .int .i64 t.pos, .slice a 3 cap]) := dx'
    have gf := v7.lt
    clear sx' dx' v7
    obtain ⟨c0, c1, c2, c3, c4, c5, -⟩ := id sx
    obtain ⟨a0, a1, a2, a3, a4, a5, ff0, ff1, ff2, ff3, ff4, ff5⟩ := id q7
    obtain ⟨W, hW, sy, hz, hk, hbb⟩ := q7.set (.string (Em.str oa)) (.string (Em.str [])) (.string (Em.str [])) (.int .i64 0) (.int .i64 t.pos) (.slice a 3 cap)
    go_wp2_with fail
    obtain ⟨c0, c1, c2, c3, c4, c5, -⟩ := id sy
    refine bodyPost_ret (v := .agg #[.string (Em.str oa), .string (Em.str []), .string (Em.str []), .int .i64 0, .int .i64 t.pos, .slice a 3 cap]) (by simp [results, Tryd.results16, go_sem, c0, c1, c2, c3, c4, c5]) rfl ?_
    refine ⟨_, .mk oa [] [] 0 t.pos [n1, n2, n3], _, rfl, ndb_mono (ndb_set dx (by omega) hz hk) (by omega), h7.set hz hk (by omega) (by omega), hbb pb w bs7 (by omega), ?_⟩
    show Fits (exprS S E (t :: r)) _ _
    rw [HXE.out, HOA.out]
    refine fits_bnd FK1.out ?_
    rw [thn_need]
    refine fits_thn FK2.out ?_
    rw [thn_need]
    exact fits_thn FK3.out fits_ok
  · have e1 : t = t1 := HT.out.symm
    subst e1
    have HXE : Hid (exprS S E (t :: r) = matchS E t.pos r) := by rw [Hid]; simp [exprS, isW, posL, hk4, htx]
    clear hk4 htx
    have hoa : oa = [109, 97, 116, 99, 104] := by rw [HOA0.out, hfs]
    rw [hfs] at h2
    have qs0 : ((Em.str oa).toList == [114, 101, 99]) = false := by rw [hoa]; exact (Em5.str_eq (by decide) _).trans (by decide)
    have qs1 : ((Em.str oa).toList == [108, 101, 116]) = false := by rw [hoa]; exact (Em5.str_eq (by decide) _).trans (by decide)
    have qs2 : ((Em.str oa).toList == [105, 102]) = false := by rw [hoa]; exact (Em5.str_eq (by decide) _).trans (by decide)
    have qs3 : ((Em.str oa).toList == [109, 97, 116, 99, 104]) = true := by rw [hoa]; exact (Em5.str_eq (by decide) _).trans (by decide)
    have qs4 : ((Em.str oa).toList == [116, 114, 121]) = false := by rw [hoa]; exact (Em5.str_eq (by decide) _).trans (by decide)
    have qs5 : ((Em.str oa).toList == [102, 117, 110]) = false := by rw [hoa]; exact (Em5.str_eq (by decide) _).trans (by decide)
    have HOA : Hid (oa = [109, 97, 116, 99, 104]) := hoa
    have HTX : Hid (Txt oa) := by rw [Hid, hoa]; exact ⟨by decide, by decide⟩
    have HE : Hid (DoesP 55 d E) := HEE.out h2.2
    clear hoa hfs
    obtain ⟨_, _, ⟨cOp, -⟩, -⟩ := id v2
    go_wp2_with fail
    refine (qkid_any d E HE.out _ pb tb (w1.heap.size) _ h2 hpg htg _ _ _ _ _ (by simp) v2).mono ?_
    rintro e w3 ⟨rfl, n1, sK1, h3, v3, hB3, FK1'⟩
    have FK1 : Hid (Fits (thn _ E) n1 sK1) := FK1'
    (try simp only [List.nil_append, List.cons_append] at v3)
    clear FK1'
    have q3 := hB3.six q2 (by omega) (by omega)
    have bs3 := hB3.bes bs2 (by omega)
    clear q2 bs2 hB3
    clear h2 v2 cOp
    obtain ⟨_, _, ⟨cOp, -⟩, -⟩ := id v3
    go_wp2_with fail
    refine (qmust_any pb tb d _ [119, 105, 116, 104] _ h3 (by decide) (by decide)).mono ?_
    rintro e w4 ⟨rfl, h4, b4⟩
    have v4 := v3.bes b4 hpg
    have gz4 := v3.lt
    have hB4 := BesB.of b4 (show w1.heap.size ≤ w3.heap.size by omega)
    have q4 := hB4.six q3 (by omega) (by omega)
    have bs4 := hB4.bes bs3 (by omega)
    clear q3 bs3 hB4
    clear h3 v3 cOp b4
    obtain ⟨_, _, ⟨cOp, -⟩, -⟩ := id v4
    go_wp2_with fail
    refine (qcase_any d E HE.out _ pb tb (w1.heap.size) _ h4 hpg htg _ _ _ (by simp) v4).mono ?_
    rintro e w5 ⟨rfl, n2, sK2, h5, v5, hB5, FK2', txn, hnn⟩
    have HNN : Hid ((nameS (needS [124] sK2)).1 = [] → ∃ e, (nameS (needS [124] sK2)).2 = .error e) := hnn
    have TXN : Hid (Txt (nameS (needS [124] sK2)).1) := txn
    clear txn hnn
    have FK2 : Hid (Fits (thn _ E) n2 sK2) := FK2'
    (try simp only [List.nil_append, List.cons_append] at v5)
    clear FK2'
    have q5 := hB5.six q4 (by omega) (by omega)
    have bs5 := hB5.bes bs4 (by omega)
    clear q4 bs4 hB5
    clear h4 v4 cOp
    obtain ⟨_, _, ⟨cOp, -⟩, -⟩ := id v5
    have tx6 := nameS_txt h5.1
    go_wp2_with fail
    refine (qname_any d _ pb tb (w1.heap.size) _ h5 hpg htg _ _ TXN.out _ _ v5).mono ?_
    rintro e w6 ⟨rfl, h6, v6, hB6⟩
    rw [nmA_two (fun hx => need_err (HNN.out hx))] at v6
    have q6 := hB6.six q5 (by omega) (by omega)
    have bs6 := hB6.bes bs5 (by omega)
    clear q5 bs5 hB6
    clear h5 v5 cOp
    obtain ⟨_, _, ⟨cOp, -⟩, -⟩ := id v6
    go_wp2_with fail
    refine (qmust_any pb tb d _ [45, 62] _ h6 (by decide) (by decide)).mono ?_
    rintro e w7 ⟨rfl, h7, b7⟩
    have v7 := v6.bes b7 hpg
    have gz7 := v6.lt
    have hB7 := BesB.of b7 (show w1.heap.size ≤ w6.heap.size by omega)
    have q7 := hB7.six q6 (by omega) (by omega)
    have bs7 := hB7.bes bs6 (by omega)
    clear q6 bs6 hB7
    clear h6 v6 cOp b7
    obtain ⟨_, _, ⟨cOp, -⟩, -⟩ := id v7
    go_wp2_with fail
    refine (qkid_any d E HE.out _ pb tb (w1.heap.size) _ h7 hpg htg _ _ _ _ _ (by simp) v7).mono ?_
    rintro e w8 ⟨rfl, n3, sK3, h8, v8, hB8, FK3'⟩
    have FK3 : Hid (Fits (thn _ E) n3 sK3) := FK3'
    (try simp only [List.nil_append, List.cons_append] at v8)
    clear FK3'
    have q8 := hB8.six q7 (by omega) (by omega)
    have bs8 := hB8.bes bs7 (by omega)
    clear q7 bs7 hB8
    clear h7 v7 cOp
    obtain ⟨a, cap, sx', dx'⟩ := v8.node HTX.out TXN.out tx6 hpos
    have sx : Six w8 w1.heap.size (.string (Em.str oa)) (.string (Em.str (nameS (needS [124] sK2)).1)) (.string (Em.str (nameS (needS [58, 58] (nameS (needS [124] sK2)).2)).1)) (.int .i64 0) (.int .i64 t.pos) (.slice a 3 cap) := sx'
    have dx : NdB (w1.heap.size + 1) w8 (.mk oa (nameS (needS [124] sK2)).1 (nameS (needS [58, 58] (nameS (needS [124] sK2)).2)).1 0 t.pos [n1, n2, n3]) (.agg #[.string (Em.str oa), .string (Em.str (nameS (needS [124] sK2)).1), .string (Em.str (nameS (needS [58, 58] (nameS (needS [124] sK2)).2)).1), .int .i64 0, .int .i64 t.pos, .slice a 3 cap]) := dx'
    have gf := v8.lt
    clear sx' dx' v8
    obtain ⟨c0, c1, c2, c3, c4, c5, -⟩ := id sx
    obtain ⟨a0, a1, a2, a3, a4, a5, ff0, ff1, ff2, ff3, ff4, ff5⟩ := id q8
    obtain ⟨W, hW, sy, hz, hk, hbb⟩ := q8.set (.string (Em.str oa)) (.string (Em.str (nameS (needS [124] sK2)).1)) (.string (Em.str (nameS (needS [58, 58] (nameS (needS [124] sK2)).2)).1)) (.int .i64 0) (.int .i64 t.pos) (.slice a 3 cap)
    go_wp2_with fail
    obtain ⟨c0, c1, c2, c3, c4, c5, -⟩ := id sy
    refine bodyPost_ret (v := .agg #[.string (Em.str oa), .string (Em.str (nameS (needS [124] sK2)).1), .string (Em.str (nameS (needS [58, 58] (nameS (needS [124] sK2)).2)).1), .int .i64 0, .int .i64 t.pos, .slice a 3 cap]) (by simp [results, Tryd.results16, go_sem, c0, c1, c2, c3, c4, c5]) rfl ?_
    refine ⟨_, .mk oa (nameS (needS [124] sK2)).1 (nameS (needS [58, 58] (nameS (needS [124] sK2)).2)).1 0 t.pos [n1, n2, n3], _, rfl, ndb_mono (ndb_set dx (by omega) hz hk) (by omega), h8.set hz hk (by omega) (by omega), hbb pb w bs8 (by omega), ?_⟩
    show Fits (exprS S E (t :: r)) _ _
    rw [HXE.out, HOA.out]
    unfold matchS
    refine fits_bnd FK1.out ?_
    rw [thn_need, thn_need, thn_need, thn_need]
    refine fits_thn FK2.out ?_
    rw [thn_need, thn_name, thn_need, thn_name, thn_need]
    exact fits_thn FK3.out fits_ok
  · have e1 : t = t1 := HT.out.symm
    subst e1
    have HXE : Hid (exprS S E (t :: r) = bnd (E r) fun a L1 => bnd0 (need [119, 105, 116, 104] L1) fun L2 => bnd (name L2) fun x L3 => bnd0 (need [45, 62] L3) fun L4 => bnd (E L4) fun b L5 => .ok (.mk [116, 114, 121] x [] 0 t.pos [a, b], L5)) := by rw [Hid]; simp [exprS, isW, posL, hk4, htx]
    clear hk4 htx
    have hoa : oa = [116, 114, 121] := by rw [HOA0.out, hfs]
    rw [hfs] at h2
    have qs0 : ((Em.str oa).toList == [114, 101, 99]) = false := by rw [hoa]; exact (Em5.str_eq (by decide) _).trans (by decide)
    have qs1 : ((Em.str oa).toList == [108, 101, 116]) = false := by rw [hoa]; exact (Em5.str_eq (by decide) _).trans (by decide)
    have qs2 : ((Em.str oa).toList == [105, 102]) = false := by rw [hoa]; exact (Em5.str_eq (by decide) _).trans (by decide)
    have qs3 : ((Em.str oa).toList == [109, 97, 116, 99, 104]) = false := by rw [hoa]; exact (Em5.str_eq (by decide) _).trans (by decide)
    have qs4 : ((Em.str oa).toList == [116, 114, 121]) = true := by rw [hoa]; exact (Em5.str_eq (by decide) _).trans (by decide)
    have qs5 : ((Em.str oa).toList == [102, 117, 110]) = false := by rw [hoa]; exact (Em5.str_eq (by decide) _).trans (by decide)
    have HOA : Hid (oa = [116, 114, 121]) := hoa
    have HTX : Hid (Txt oa) := by rw [Hid, hoa]; exact ⟨by decide, by decide⟩
    have HE : Hid (DoesP 55 d E) := HEE.out h2.2
    clear hoa hfs
    obtain ⟨_, _, ⟨cOp, -⟩, -⟩ := id v2
    go_wp2_with fail
    refine (qkid_any d E HE.out _ pb tb (w1.heap.size) _ h2 hpg htg _ _ _ _ _ (by simp) v2).mono ?_
    rintro e w3 ⟨rfl, n1, sK1, h3, v3, hB3, FK1'⟩
    have FK1 : Hid (Fits (thn _ E) n1 sK1) := FK1'
    (try simp only [List.nil_append, List.cons_append] at v3)
    clear FK1'
    have q3 := hB3.six q2 (by omega) (by omega)
    have bs3 := hB3.bes bs2 (by omega)
    clear q2 bs2 hB3
    clear h2 v2 cOp
    obtain ⟨_, _, ⟨cOp, -⟩, -⟩ := id v3
    go_wp2_with fail
    refine (qmust_any pb tb d _ [119, 105, 116, 104] _ h3 (by decide) (by decide)).mono ?_
    rintro e w4 ⟨rfl, h4, b4⟩
    have v4 := v3.bes b4 hpg
    have gz4 := v3.lt
    have hB4 := BesB.of b4 (show w1.heap.size ≤ w3.heap.size by omega)
    have q4 := hB4.six q3 (by omega) (by omega)
    have bs4 := hB4.bes bs3 (by omega)
    clear q3 bs3 hB4
    clear h3 v3 cOp b4
    obtain ⟨_, _, ⟨cOp, -⟩, -⟩ := id v4
    have tx5 := nameS_txt h4.1
    go_wp2_with fail
    refine (qname_any d _ pb tb (w1.heap.size) _ h4 hpg htg _ _ txt_nil _ _ v4).mono ?_
    rintro e w5 ⟨rfl, h5, v5, hB5⟩
    rw [nmA_nil] at v5
    have q5 := hB5.six q4 (by omega) (by omega)
    have bs5 := hB5.bes bs4 (by omega)
    clear q4 bs4 hB5
    clear h4 v4 cOp
    obtain ⟨_, _, ⟨cOp, -⟩, -⟩ := id v5
    go_wp2_with fail
    refine (qmust_any pb tb d _ [45, 62] _ h5 (by decide) (by decide)).mono ?_
    rintro e w6 ⟨rfl, h6, b6⟩
    have v6 := v5.bes b6 hpg
    have gz6 := v5.lt
    have hB6 := BesB.of b6 (show w1.heap.size ≤ w5.heap.size by omega)
    have q6 := hB6.six q5 (by omega) (by omega)
    have bs6 := hB6.bes bs5 (by omega)
    clear q5 bs5 hB6
    clear h5 v5 cOp b6
    obtain ⟨_, _, ⟨cOp, -⟩, -⟩ := id v6
    go_wp2_with fail
    refine (qkid_any d E HE.out _ pb tb (w1.heap.size) _ h6 hpg htg _ _ _ _ _ (by simp) v6).mono ?_
    rintro e w7 ⟨rfl, n2, sK2, h7, v7, hB7, FK2'⟩
    have FK2 : Hid (Fits (thn _ E) n2 sK2) := FK2'
    (try simp only [List.nil_append, List.cons_append] at v7)
    clear FK2'
    have q7 := hB7.six q6 (by omega) (by omega)
    have bs7 := hB7.bes bs6 (by omega)
    clear q6 bs6 hB7
    clear h6 v6 cOp
    obtain ⟨a, cap, sx', dx'⟩ := v7.node HTX.out tx5 txt_nil hpos
    have sx : Six w7 w1.heap.size (.string (Em.str oa)) (.string (Em.str (nameS (needS [119, 105, 116, 104] sK1)).1)) (.string (Em.str [])) (.int .i64 0) (.int .i64 t.pos) (.slice a 2 cap) := sx'
    have dx : NdB (w1.heap.size + 1) w7 (.mk oa (nameS (needS [119, 105, 116, 104] sK1)).1 [] 0 t.pos [n1, n2]) (.agg #[.string (Em.str oa), .string (Em.str (nameS (needS [119, 105, 116, 104] sK1)).1), .string (Em.str []), .int .i64 0, .int .i64 t.pos, .slice a 2 cap]) := dx'
    have gf := v7.lt
    clear sx' dx' v7
    obtain ⟨c0, c1, c2, c3, c4, c5, -⟩ := id sx
    obtain ⟨a0, a1, a2, a3, a4, a5, ff0, ff1, ff2, ff3, ff4, ff5⟩ := id q7
    obtain ⟨W, hW, sy, hz, hk, hbb⟩ := q7.set (.string (Em.str oa)) (.string (Em.str (nameS (needS [119, 105, 116, 104] sK1)).1)) (.string (Em.str [])) (.int .i64 0) (.int .i64 t.pos) (.slice a 2 cap)
    go_wp2_with fail
    obtain ⟨c0, c1, c2, c3, c4, c5, -⟩ := id sy
    refine bodyPost_ret (v := .agg #[.string (Em.str oa), .string (Em.str (nameS (needS [119, 105, 116, 104] sK1)).1), .string (Em.str []), .int .i64 0, .int .i64 t.pos, .slice a 2 cap]) (by simp [results, Tryd.results16, go_sem, c0, c1, c2, c3, c4, c5]) rfl ?_
    refine ⟨_, .mk oa (nameS (needS [119, 105, 116, 104] sK1)).1 [] 0 t.pos [n1, n2], _, rfl, ndb_mono (ndb_set dx (by omega) hz hk) (by omega), h7.set hz hk (by omega) (by omega), hbb pb w bs7 (by omega), ?_⟩
    show Fits (exprS S E (t :: r)) _ _
    rw [HXE.out, HOA.out]
    refine fits_bnd FK1.out ?_
    rw [thn_need, thn_name, thn_need]
    exact fits_thn FK2.out fits_ok
end Go.Proofs.YtgojjknbingfpaaDoor

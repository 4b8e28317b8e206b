/- Several texts in one: PaM, PaN, PaO. -/
import Derived.Test.YtgojjknbingfpaaDoorPaL
import Derived.Test.YtgojjknbingfpaaDoorPaD
import Derived.Test.YtgojjknbingfpaaDoorPaH
import Derived.Test.YtgojjknbingfpaaDoorPaJ
import Derived.Test.YtgojjknbingfpaaDoorPureB
namespace Go.Proofs.YtgojjknbingfpaaDoor
open Go.RowKit Go.Em5 Go.Em6
set_option linter.unusedSimpArgs false

theorem nmA_nil (s : St) : nmA [] s = ((nameS s).1, []) := by rw [nmA, if_pos rfl]
theorem nmA_two {x : List Int} {s : St} (h : x = [] → ∃ e, s = .error e) : nmA x s = (x, (nameS s).1) := by
  by_cases hx : x = []
  · obtain ⟨e, rfl⟩ := h hx
    subst hx
    rfl
  · rw [nmA, if_neg hx]
theorem need_err {x : List Int} {s : St} (h : ∃ e, s = .error e) : ∃ e, needS x s = .error e := by
  obtain ⟨e, rfl⟩ := h
  exact ⟨e, rfl⟩
theorem eatS_ok {x : List Int} {s : St} (h : isWS x s = true) : ∃ t r, s = .ok (t :: r) ∧ t.kind = 4 ∧ t.text = x ∧ eatS x s = .ok r := by
  obtain ⟨t, r, rfl, h4, ht, -⟩ := isWS_ok h
  exact ⟨t, r, rfl, h4, ht, eatS_t h⟩
theorem expr_seq {S E : List Em4.Tok → R} {s : St} (h : formS s = ([], s) ∧ isWS [108, 101, 116] s = false ∧ isWS [102, 117, 110] s = false ∧ isWS [105, 102] s = false ∧ isWS [109, 97, 116, 99, 104] s = false ∧ isWS [116, 114, 121] s = false) : thn s (exprS S E) = thn s (seqS S E) := by
  obtain ⟨-, h1, h2, h3, h4, h5⟩ := h
  cases s with
  | error e => rfl
  | ok L =>
    have h1 : isW [108, 101, 116] L = false := h1
    have h2 : isW [102, 117, 110] L = false := h2
    have h3 : isW [105, 102] L = false := h3
    have h4 : isW [109, 97, 116, 99, 104] L = false := h4
    have h5 : isW [116, 114, 121] L = false := h5
    show exprS S E L = seqS S E L
    unfold exprS
    rw [if_neg (by rw [h1]; decide), if_neg (by rw [h2]; decide), if_neg (by rw [h3]; decide), if_neg (by rw [h4]; decide), if_neg (by rw [h5]; decide)]
    rfl
/-- By which words an expr begins. -/
theorem form_cases (s : St) : (formS s = ([], s) ∧ isWS [108, 101, 116] s = false ∧ isWS [102, 117, 110] s = false ∧ isWS [105, 102] s = false ∧ isWS [109, 97, 116, 99, 104] s = false ∧ isWS [116, 114, 121] s = false) ∨
    (∃ t t' r, s = .ok (t :: t' :: r) ∧ t.kind = 4 ∧ t.text = [108, 101, 116] ∧ t'.kind = 4 ∧ t'.text = [114, 101, 99] ∧ formS s = ([114, 101, 99], .ok r)) ∨
    (∃ t r, s = .ok (t :: r) ∧ t.kind = 4 ∧ t.text = [108, 101, 116] ∧ isW [114, 101, 99] r = false ∧ formS s = ([108, 101, 116], .ok r)) ∨
    (∃ t r, s = .ok (t :: r) ∧ t.kind = 4 ∧ t.text = [102, 117, 110] ∧ formS s = ([102, 117, 110], .ok r)) ∨
    (∃ t r, s = .ok (t :: r) ∧ t.kind = 4 ∧ t.text = [105, 102] ∧ formS s = ([105, 102], .ok r)) ∨
    (∃ t r, s = .ok (t :: r) ∧ t.kind = 4 ∧ t.text = [109, 97, 116, 99, 104] ∧ formS s = ([109, 97, 116, 99, 104], .ok r)) ∨
    (∃ t r, s = .ok (t :: r) ∧ t.kind = 4 ∧ t.text = [116, 114, 121] ∧ formS s = ([116, 114, 121], .ok r)) := by
  unfold formS
  by_cases h1 : isWS [108, 101, 116] s = true
  · obtain ⟨t, r, rfl, k4, kt, ke⟩ := eatS_ok h1
    rw [if_pos h1, ke]
    by_cases h2 : isWS [114, 101, 99] (.ok r) = true
    · obtain ⟨t', r', e2, k4', kt', ke'⟩ := eatS_ok h2
      injection e2 with e2
      subst e2
      rw [if_pos h2, ke']
      exact .inr (.inl ⟨t, t', r', rfl, k4, kt, k4', kt', rfl⟩)
    · rw [if_neg h2]
      exact .inr (.inr (.inl ⟨t, r, rfl, k4, kt, by show isWS _ (.ok r) = false; simpa using h2, rfl⟩))
  rw [if_neg h1]
  by_cases h2 : isWS [102, 117, 110] s = true
  · obtain ⟨t, r, rfl, k4, kt, ke⟩ := eatS_ok h2
    rw [if_pos h2, ke]
    exact .inr (.inr (.inr (.inl ⟨t, r, rfl, k4, kt, rfl⟩)))
  rw [if_neg h2]
  by_cases h3 : isWS [105, 102] s = true
  · obtain ⟨t, r, rfl, k4, kt, ke⟩ := eatS_ok h3
    rw [if_pos h3, ke]
    exact .inr (.inr (.inr (.inr (.inl ⟨t, r, rfl, k4, kt, rfl⟩))))
  rw [if_neg h3]
  by_cases h4 : isWS [109, 97, 116, 99, 104] s = true
  · obtain ⟨t, r, rfl, k4, kt, ke⟩ := eatS_ok h4
    rw [if_pos h4, ke]
    exact .inr (.inr (.inr (.inr (.inr (.inl ⟨t, r, rfl, k4, kt, rfl⟩)))))
  rw [if_neg h4]
  by_cases h5 : isWS [116, 114, 121] s = true
  · obtain ⟨t, r, rfl, k4, kt, ke⟩ := eatS_ok h5
    rw [if_pos h5, ke]
    exact .inr (.inr (.inr (.inr (.inr (.inr ⟨t, r, rfl, k4, kt, rfl⟩)))))
  rw [if_neg h5]
  exact .inl ⟨rfl, by simpa using h1, by simpa using h2, by simpa using h3, by simpa using h4, by simpa using h5⟩
set_option maxRecDepth 100000 in
set_option maxHeartbeats 4000000 in
theorem qcase_any (d : Nat) (E : List Em4.Tok → R) (hI : DoesP 55 d E) (w0 : World) (pb tb g : Nat) (s : St) (h : IsPs w0 pb tb d s) (hpg : pb < g) (htg : tb < g) (op : List Int) (p : Nat) (l : List Nd) (hl : l.length ≤ 9) (hv : KV 24 w0 g op [] [] p l) :
    Calls Tryd.prog 33 #[PP pb, PP g] w0 fun e w' => e = .returned (.tuple #[]) ∧ ∃ n sK, IsPs w' pb tb d (needS [58, 58] (nameS (needS [124] sK)).2) ∧ KV 24 w' g op (nameS (needS [124] sK)).1 [] p (l ++ [n]) ∧ BesB g pb w0 w' ∧ Fits (thn (needS [45, 62] (needS [93] (needS [91] s))) E) n sK ∧ Txt (nameS (needS [124] sK)).1 ∧ ((nameS (needS [124] sK)).1 = [] → ∃ e, (nameS (needS [124] sK)).2 = .error e) := by
  have HE : Hid (DoesP 55 d E) := hI
  have hl10 : l.length ≤ 10 := by omega
  have h0 := h
  have v0 := hv
  have bs0 := BesB.refl g pb w0
  clear h hv hI
  go_enter Tryd.func33, Tryd.ntmps33
  go_wp2_with fail
  refine (qmust_any pb tb d _ [91] _ h0 (by decide) (by decide)).mono ?_
  rintro e w1 ⟨rfl, h1, b1⟩
  have v1 := v0.bes b1 hpg
  have gz1 := v0.lt
  have hB1 := BesB.of b1 (show g ≤ w0.heap.size by omega)
  have bs1 := bs0.trans hB1
  clear bs0 hB1
  clear h0 v0 b1
  go_wp2_with fail
  refine (qmust_any pb tb d _ [93] _ h1 (by decide) (by decide)).mono ?_
  rintro e w2 ⟨rfl, h2, b2⟩
  have v2 := v1.bes b2 hpg
  have gz2 := v1.lt
  have hB2 := BesB.of b2 (show g ≤ w1.heap.size by omega)
  have bs2 := bs1.trans hB2
  clear bs1 hB2
  clear h1 v1 b2
  go_wp2_with fail
  refine (qmust_any pb tb d _ [45, 62] _ h2 (by decide) (by decide)).mono ?_
  rintro e w3 ⟨rfl, h3, b3⟩
  have v3 := v2.bes b3 hpg
  have gz3 := v2.lt
  have hB3 := BesB.of b3 (show g ≤ w2.heap.size by omega)
  have bs3 := bs2.trans hB3
  clear bs2 hB3
  clear h2 v2 b3
  go_wp2_with fail
  refine (qkid_any d E HE.out _ pb tb g _ h3 hpg htg _ _ _ _ _ hl10 v3).mono ?_
  rintro e w4 ⟨rfl, n1, sK1, h4, v4, hB4, FK1'⟩
  have FK1 : Hid (Fits (thn _ E) n1 sK1) := FK1'
  (try simp only [List.nil_append, List.cons_append] at v4)
  clear FK1'
  have bs4 := bs3.trans hB4
  clear bs3 hB4
  clear h3 v3
  go_wp2_with fail
  refine (qmust_any pb tb d _ [124] _ h4 (by decide) (by decide)).mono ?_
  rintro e w5 ⟨rfl, h5, b5⟩
  have v5 := v4.bes b5 hpg
  have gz5 := v4.lt
  have hB5 := BesB.of b5 (show g ≤ w4.heap.size by omega)
  have bs5 := bs4.trans hB5
  clear bs4 hB5
  clear h4 v4 b5
  have tx6 := nameS_txt h5.1
  have HNI := nameS_nil h5.1
  go_wp2_with fail
  refine (qname_any d _ pb tb g _ h5 hpg htg _ _ txt_nil _ _ v5).mono ?_
  rintro e w6 ⟨rfl, h6, v6, hB6⟩
  rw [nmA_nil] at v6
  have bs6 := bs5.trans hB6
  clear bs5 hB6
  clear h5 v5
  go_wp2_with fail
  refine (qmust_any pb tb d _ [58, 58] _ h6 (by decide) (by decide)).mono ?_
  rintro e w7 ⟨rfl, h7, b7⟩
  have v7 := v6.bes b7 hpg
  have gz7 := v6.lt
  have hB7 := BesB.of b7 (show g ≤ w6.heap.size by omega)
  have bs7 := bs6.trans hB7
  clear bs6 hB7
  clear h6 v6 b7
  go_wp2_with fail
  (try simp only [Exit.inBlock, Exit.then])
  refine bodyPost_end (results_none rfl _ _ _) rfl ?_
  exact ⟨rfl, n1, sK1, h7, v7, bs7, FK1.out, tx6, HNI⟩
end Go.Proofs.YtgojjknbingfpaaDoor

namespace Go.Proofs.YtgojjknbingfpaaDoor
open Go.RowKit Go.Em5 Go.Em6
set_option linter.unusedSimpArgs false

set_option maxRecDepth 100000 in
set_option maxHeartbeats 4000000 in
theorem qexpr_does (d : Nat) (S E : List Em4.Tok → R) (hSq : DoesP 34 d (seqS S E)) (hE : d < 40 → DoesP 55 d E) : DoesP 16 d (exprS S E) := by
  intro s w pb tb h
  have HH : Hid (IsPs w pb tb d s) := h
  have HSQ : Hid (DoesP 34 d (seqS S E)) := hSq
  have HEE : Hid (d < 40 → DoesP 55 d E) := hE
  obtain ⟨hlp, hlt, hne, -⟩ := h.lt
  have htk := h.1.now
  obtain ⟨t, htd⟩ : ∃ t, t = peekS s := ⟨_, rfl⟩
  have HT : Hid (peekS s = t) := htd.symm
  rw [← htd] at htk
  have hpos : t.pos ≤ 140737488351232 := htk.2.2.1
  have f3 := fld3 t.kind (Em.str t.text) t.num t.pos
  have z4 := Six.made w (.string ⟨#[]⟩) (.string ⟨#[]⟩) (.string ⟨#[]⟩) (.int .i64 0) (.int .i64 0) (.slice none 0 0) 24
  clear htd h hSq hE htk
  go_enter Tryd.func16, Tryd.ntmps16
  go_wp2_with fail
  refine (qpeek_any pb tb d s _ (HH.out.alloc _).1).mono ?_
  rintro e w1 ⟨rfl, hb1⟩
  rw [HT.out]
  simp only [Em6.tokV]
  have h1 := ((HH.out.alloc _).below hb1).alloc (.cells #[.string ⟨#[]⟩, .string ⟨#[]⟩, .string ⟨#[]⟩, .int .i64 0, .int .i64 t.pos, .slice none 0 0] 24)
  have q1 := (z4.below hb1).alloc (.cells #[.string ⟨#[]⟩, .string ⟨#[]⟩, .string ⟨#[]⟩, .int .i64 0, .int .i64 t.pos, .slice none 0 0] 24)
  have bs1 : Bes pb w (w1.alloc (.cells #[.string ⟨#[]⟩, .string ⟨#[]⟩, .string ⟨#[]⟩, .int .i64 0, .int .i64 t.pos, .slice none 0 0] 24)) := (((Bes.refl pb w).alloc _).trans (Bes.of hb1)).alloc _
  have gq := (z4.below hb1).lt
  have v1 : KV 24 (w1.alloc (.cells #[.string ⟨#[]⟩, .string ⟨#[]⟩, .string ⟨#[]⟩, .int .i64 0, .int .i64 t.pos, .slice none 0 0] 24)) w1.heap.size [] [] [] t.pos [] := ⟨none, 0, Six.made w1 _ _ _ _ _ _ _, OwnNds.nil _ _ _ _⟩
  have hpg : pb < w1.heap.size := by omega
  have htg : tb < w1.heap.size := by omega
  clear z4 hb1
  go_wp2_with fail
  refine (qform_any pb tb d s _ h1).mono ?_
  rintro e wF ⟨rfl, hF, bF⟩
  obtain ⟨oa, hoa0⟩ : ∃ o, o = (formS s).1 := ⟨_, rfl⟩
  have HOA0 : Hid (oa = (formS s).1) := hoa0
  rw [← hoa0]
  have vF := v1.bes bF hpg
  have qF := q1.bes bF (by omega)
  have bsF := bs1.trans bF
  have gF := vF.lt
  clear hoa0 h1 q1 bs1 v1 bF
  obtain ⟨aF, capF, sxF, oxF⟩ := vF
  obtain ⟨w2, hW2, s2, hz2, hk2, hb2⟩ := sxF.set0 (.string (Em.str oa))
  obtain ⟨kc0, -, -, -, -, -, kf0, -⟩ := id sxF
  have v2 : KV 24 w2 w1.heap.size oa [] [] t.pos [] := KV.put oxF s2 hz2 hk2
  have q2 := qF.far hk2 (by omega)
  have h2 := hF.set hz2 hk2 (by omega) (by omega)
  have bs2 := hb2 pb w bsF (by omega)
  have g2 := v2.lt
  clear s2 oxF sxF hF qF bsF hb2 hk2
  rcases form_cases s with hcs | ⟨t1, t2, r, rfl, hk4, htx, hk5, htx2, hfs⟩ | ⟨t1, r, rfl, hk4, htx, hrc, hfs⟩ | ⟨t1, r, rfl, hk4, htx, hfs⟩ | ⟨t1, r, rfl, hk4, htx, hfs⟩ | ⟨t1, r, rfl, hk4, htx, hfs⟩ | ⟨t1, r, rfl, hk4, htx, hfs⟩
  · have hfs := hcs.1
    have hoa : oa = [] := by rw [HOA0.out, hfs]
    rw [hfs] at h2
    have qs0 : ((Em.str oa).toList == [114, 101, 99]) = false := by rw [hoa]; exact (Em5.str_eq (by decide) _).trans (by decide)
    have qs1 : ((Em.str oa).toList == [108, 101, 116]) = false := by rw [hoa]; exact (Em5.str_eq (by decide) _).trans (by decide)
    have qs2 : ((Em.str oa).toList == [105, 102]) = false := by rw [hoa]; exact (Em5.str_eq (by decide) _).trans (by decide)
    have qs3 : ((Em.str oa).toList == [109, 97, 116, 99, 104]) = false := by rw [hoa]; exact (Em5.str_eq (by decide) _).trans (by decide)
    have qs4 : ((Em.str oa).toList == [116, 114, 121]) = false := by rw [hoa]; exact (Em5.str_eq (by decide) _).trans (by decide)
    have qs5 : ((Em.str oa).toList == [102, 117, 110]) = false := by rw [hoa]; exact (Em5.str_eq (by decide) _).trans (by decide)
    have HEQ : Hid (thn s (exprS S E) = thn s (seqS S E)) := expr_seq hcs
    clear hoa hfs hcs
    obtain ⟨_, _, ⟨cOp, -⟩, -⟩ := id v2
    go_wp2_with fail
    refine (HSQ.out s _ pb tb h2).mono ?_
    rintro e w3 ⟨v3, n3, s3, rfl, d3, h3, b3, F3⟩
    obtain ⟨y0, y1, y2, ym, yp, ya, yl, yc, rfl⟩ := ndb_shape d3
    have q3 := q2.bes b3 (by omega)
    have bs3 := bs2.trans b3
    have gs3 := b3.size
    have HF3 : Hid (Fits (thn s (seqS S E)) n3 s3) := F3
    clear F3 b3
    obtain ⟨a0, a1, a2, a3, a4, a5, ff0, ff1, ff2, ff3, ff4, ff5⟩ := id q3
    obtain ⟨W, hW, sy, hz, hk, hbb⟩ := q3.set (.string y0) (.string y1) (.string y2) (.int .i64 ym) (.int .i64 yp) (.slice ya yl yc)
    go_wp2_with fail
    obtain ⟨c0, c1, c2, c3, c4, c5, -⟩ := id sy
    refine bodyPost_ret (v := .agg #[.string y0, .string y1, .string y2, .int .i64 ym, .int .i64 yp, .slice ya yl yc]) (by simp [results, Tryd.results16, go_sem, c0, c1, c2, c3, c4, c5]) rfl ?_
    exact ⟨_, n3, s3, rfl, ndb_mono (ndb_set d3 (by omega) hz hk) (by omega), h3.set hz hk (by omega) (by omega), hbb pb w bs3 (by omega), by rw [HEQ.out]; exact HF3.out⟩
  · have e1 : t = t1 := HT.out.symm
    subst e1
    have HXE : Hid (exprS S E (t :: t2 :: r) = bnd (name r) fun x L1 => bnd (name L1) fun y L2 => letT E [114, 101, 99] x y t.pos L2) := by rw [Hid]; simp [exprS, letS, isW, posL, hk4, htx, hk5, htx2]
    clear hk5 htx2
    clear hk4 htx
    have hoa : oa = [114, 101, 99] := by rw [HOA0.out, hfs]
    rw [hfs] at h2
    have qs0 : ((Em.str oa).toList == [114, 101, 99]) = true := by rw [hoa]; exact (Em5.str_eq (by decide) _).trans (by decide)
    have qs1 : ((Em.str oa).toList == [108, 101, 116]) = false := by rw [hoa]; exact (Em5.str_eq (by decide) _).trans (by decide)
    have qs2 : ((Em.str oa).toList == [105, 102]) = false := by rw [hoa]; exact (Em5.str_eq (by decide) _).trans (by decide)
    have qs3 : ((Em.str oa).toList == [109, 97, 116, 99, 104]) = false := by rw [hoa]; exact (Em5.str_eq (by decide) _).trans (by decide)
    have qs4 : ((Em.str oa).toList == [116, 114, 121]) = false := by rw [hoa]; exact (Em5.str_eq (by decide) _).trans (by decide)
    have qs5 : ((Em.str oa).toList == [102, 117, 110]) = false := by rw [hoa]; exact (Em5.str_eq (by decide) _).trans (by decide)
    have HOA : Hid (oa = [114, 101, 99]) := hoa
    have HTX : Hid (Txt oa) := by rw [Hid, hoa]; exact ⟨by decide, by decide⟩
    have HE : Hid (DoesP 55 d E) := HEE.out h2.2
    clear hoa hfs
    obtain ⟨_, _, ⟨cOp, -⟩, -⟩ := id v2
    have tx3 := nameS_txt h2.1
    have HPN : Hid (IsPr w2 pb tb d (.ok r)) := h2.1
    go_wp2_with fail
    refine (qname_any d _ pb tb (w1.heap.size) _ h2 hpg htg _ _ txt_nil _ _ v2).mono ?_
    rintro e w3 ⟨rfl, h3, v3, hB3⟩
    rw [nmA_nil] at v3
    have q3 := hB3.six q2 (by omega) (by omega)
    have bs3 := hB3.bes bs2 (by omega)
    clear q2 bs2 hB3
    clear h2 v2 cOp
    obtain ⟨_, _, ⟨cOp, -⟩, -⟩ := id v3
    have tx4 := nameS_txt h3.1
    go_wp2_with fail
    refine (qname_any d _ pb tb (w1.heap.size) _ h3 hpg htg _ _ tx3 _ _ v3).mono ?_
    rintro e w4 ⟨rfl, h4, v4, hB4⟩
    rw [nmA_two (fun hx => nameS_nil HPN.out hx)] at v4
    have q4 := hB4.six q3 (by omega) (by omega)
    have bs4 := hB4.bes bs3 (by omega)
    clear q3 bs3 hB4
    clear h3 v3 cOp
    obtain ⟨_, _, ⟨cOp, -⟩, -⟩ := id v4
    go_wp2_with fail
    refine (qmust_any pb tb d _ [61] _ h4 (by decide) (by decide)).mono ?_
    rintro e w5 ⟨rfl, h5, b5⟩
    have v5 := v4.bes b5 hpg
    have gz5 := v4.lt
    have hB5 := BesB.of b5 (show w1.heap.size ≤ w4.heap.size by omega)
    have q5 := hB5.six q4 (by omega) (by omega)
    have bs5 := hB5.bes bs4 (by omega)
    clear q4 bs4 hB5
    clear h4 v4 cOp b5
    obtain ⟨_, _, ⟨cOp, -⟩, -⟩ := id v5
    go_wp2_with fail
    refine (qkid_any d E HE.out _ pb tb (w1.heap.size) _ h5 hpg htg _ _ _ _ _ (by simp) v5).mono ?_
    rintro e w6 ⟨rfl, n1, sK1, h6, v6, hB6, FK1'⟩
    have FK1 : Hid (Fits (thn _ E) n1 sK1) := FK1'
    (try simp only [List.nil_append, List.cons_append] at v6)
    clear FK1'
    have q6 := hB6.six q5 (by omega) (by omega)
    have bs6 := hB6.bes bs5 (by omega)
    clear q5 bs5 hB6
    clear h5 v5 cOp
    obtain ⟨_, _, ⟨cOp, -⟩, -⟩ := id v6
    go_wp2_with fail
    refine (qmust_any pb tb d _ [105, 110] _ h6 (by decide) (by decide)).mono ?_
    rintro e w7 ⟨rfl, h7, b7⟩
    have v7 := v6.bes b7 hpg
    have gz7 := v6.lt
    have hB7 := BesB.of b7 (show w1.heap.size ≤ w6.heap.size by omega)
    have q7 := hB7.six q6 (by omega) (by omega)
    have bs7 := hB7.bes bs6 (by omega)
    clear q6 bs6 hB7
    clear h6 v6 cOp b7
    obtain ⟨_, _, ⟨cOp, -⟩, -⟩ := id v7
    go_wp2_with fail
    refine (qkid_any d E HE.out _ pb tb (w1.heap.size) _ h7 hpg htg _ _ _ _ _ (by simp) v7).mono ?_
    rintro e w8 ⟨rfl, n2, sK2, h8, v8, hB8, FK2'⟩
    have FK2 : Hid (Fits (thn _ E) n2 sK2) := FK2'
    (try simp only [List.nil_append, List.cons_append] at v8)
    clear FK2'
    have q8 := hB8.six q7 (by omega) (by omega)
    have bs8 := hB8.bes bs7 (by omega)
    clear q7 bs7 hB8
    clear h7 v7 cOp
    obtain ⟨a, cap, sx', dx'⟩ := v8.node HTX.out tx3 tx4 hpos
    have sx : Six w8 w1.heap.size (.string (Em.str oa)) (.string (Em.str (nameS (.ok r)).1)) (.string (Em.str (nameS (nameS (.ok r)).2).1)) (.int .i64 0) (.int .i64 t.pos) (.slice a 2 cap) := sx'
    have dx : NdB (w1.heap.size + 1) w8 (.mk oa (nameS (.ok r)).1 (nameS (nameS (.ok r)).2).1 0 t.pos [n1, n2]) (.agg #[.string (Em.str oa), .string (Em.str (nameS (.ok r)).1), .string (Em.str (nameS (nameS (.ok r)).2).1), .int .i64 0, .int .i64 t.pos, .slice a 2 cap]) := dx'
    have gf := v8.lt
    clear sx' dx' v8
    obtain ⟨c0, c1, c2, c3, c4, c5, -⟩ := id sx
    obtain ⟨a0, a1, a2, a3, a4, a5, ff0, ff1, ff2, ff3, ff4, ff5⟩ := id q8
    obtain ⟨W, hW, sy, hz, hk, hbb⟩ := q8.set (.string (Em.str oa)) (.string (Em.str (nameS (.ok r)).1)) (.string (Em.str (nameS (nameS (.ok r)).2).1)) (.int .i64 0) (.int .i64 t.pos) (.slice a 2 cap)
    go_wp2_with fail
    obtain ⟨c0, c1, c2, c3, c4, c5, -⟩ := id sy
    refine bodyPost_ret (v := .agg #[.string (Em.str oa), .string (Em.str (nameS (.ok r)).1), .string (Em.str (nameS (nameS (.ok r)).2).1), .int .i64 0, .int .i64 t.pos, .slice a 2 cap]) (by simp [results, Tryd.results16, go_sem, c0, c1, c2, c3, c4, c5]) rfl ?_
    refine ⟨_, .mk oa (nameS (.ok r)).1 (nameS (nameS (.ok r)).2).1 0 t.pos [n1, n2], _, rfl, ndb_mono (ndb_set dx (by omega) hz hk) (by omega), h8.set hz hk (by omega) (by omega), hbb pb w bs8 (by omega), ?_⟩
    show Fits (exprS S E (t :: t2 :: r)) _ _
    rw [HXE.out, HOA.out]
    show Fits (thn (.ok r) fun L => bnd (name L) fun x L1 => bnd (name L1) fun y L2 => letT E [114, 101, 99] x y t.pos L2) _ _
    rw [thn_name, thn_name]
    unfold letT
    rw [thn_need]
    refine fits_thn FK1.out ?_
    rw [thn_need]
    exact fits_thn FK2.out fits_ok
  · have e1 : t = t1 := HT.out.symm
    subst e1
    have HXE : Hid (exprS S E (t :: r) = bnd (name r) fun x L1 => letT E [108, 101, 116] x [] t.pos L1) := by rw [Hid]; have e9 : isW [108, 101, 116] (t :: r) = true := (by simp [isW, hk4, htx]); unfold exprS; rw [if_pos e9]; show letS E t.pos r = _; unfold letS; rw [if_neg (by rw [hrc]; decide)]
    clear hrc
    clear hk4 htx
    have hoa : oa = [108, 101, 116] := by rw [HOA0.out, hfs]
    rw [hfs] at h2
    have qs0 : ((Em.str oa).toList == [114, 101, 99]) = false := by rw [hoa]; exact (Em5.str_eq (by decide) _).trans (by decide)
    have qs1 : ((Em.str oa).toList == [108, 101, 116]) = true := by rw [hoa]; exact (Em5.str_eq (by decide) _).trans (by decide)
    have qs2 : ((Em.str oa).toList == [105, 102]) = false := by rw [hoa]; exact (Em5.str_eq (by decide) _).trans (by decide)
    have qs3 : ((Em.str oa).toList == [109, 97, 116, 99, 104]) = false := by rw [hoa]; exact (Em5.str_eq (by decide) _).trans (by decide)
    have qs4 : ((Em.str oa).toList == [116, 114, 121]) = false := by rw [hoa]; exact (Em5.str_eq (by decide) _).trans (by decide)
    have qs5 : ((Em.str oa).toList == [102, 117, 110]) = false := by rw [hoa]; exact (Em5.str_eq (by decide) _).trans (by decide)
    have HOA : Hid (oa = [108, 101, 116]) := hoa
    have HTX : Hid (Txt oa) := by rw [Hid, hoa]; exact ⟨by decide, by decide⟩
    have HE : Hid (DoesP 55 d E) := HEE.out h2.2
    clear hoa hfs
    obtain ⟨_, _, ⟨cOp, -⟩, -⟩ := id v2
    have tx3 := nameS_txt h2.1
    go_wp2_with fail
    refine (qname_any d _ pb tb (w1.heap.size) _ h2 hpg htg _ _ txt_nil _ _ v2).mono ?_
    rintro e w3 ⟨rfl, h3, v3, hB3⟩
    rw [nmA_nil] at v3
    have q3 := hB3.six q2 (by omega) (by omega)
    have bs3 := hB3.bes bs2 (by omega)
    clear q2 bs2 hB3
    clear h2 v2 cOp
    obtain ⟨_, _, ⟨cOp, -⟩, -⟩ := id v3
    go_wp2_with fail
    refine (qmust_any pb tb d _ [61] _ h3 (by decide) (by decide)).mono ?_
    rintro e w4 ⟨rfl, h4, b4⟩
    have v4 := v3.bes b4 hpg
    have gz4 := v3.lt
    have hB4 := BesB.of b4 (show w1.heap.size ≤ w3.heap.size by omega)
    have q4 := hB4.six q3 (by omega) (by omega)
    have bs4 := hB4.bes bs3 (by omega)
    clear q3 bs3 hB4
    clear h3 v3 cOp b4
    obtain ⟨_, _, ⟨cOp, -⟩, -⟩ := id v4
    go_wp2_with fail
    refine (qkid_any d E HE.out _ pb tb (w1.heap.size) _ h4 hpg htg _ _ _ _ _ (by simp) v4).mono ?_
    rintro e w5 ⟨rfl, n1, sK1, h5, v5, hB5, FK1'⟩
    have FK1 : Hid (Fits (thn _ E) n1 sK1) := FK1'
    (try simp only [List.nil_append, List.cons_append] at v5)
    clear FK1'
    have q5 := hB5.six q4 (by omega) (by omega)
    have bs5 := hB5.bes bs4 (by omega)
    clear q4 bs4 hB5
    clear h4 v4 cOp
    obtain ⟨_, _, ⟨cOp, -⟩, -⟩ := id v5
    go_wp2_with fail
    refine (qmust_any pb tb d _ [105, 110] _ h5 (by decide) (by decide)).mono ?_
    rintro e w6 ⟨rfl, h6, b6⟩
    have v6 := v5.bes b6 hpg
    have gz6 := v5.lt
    have hB6 := BesB.of b6 (show w1.heap.size ≤ w5.heap.size by omega)
    have q6 := hB6.six q5 (by omega) (by omega)
    have bs6 := hB6.bes bs5 (by omega)
    clear q5 bs5 hB6
    clear h5 v5 cOp b6
    obtain ⟨_, _, ⟨cOp, -⟩, -⟩ := id v6
    go_wp2_with fail
    refine (qkid_any d E HE.out _ pb tb (w1.heap.size) _ h6 hpg htg _ _ _ _ _ (by simp) v6).mono ?_
    rintro e w7 ⟨rfl, n2, sK2, h7, v7, hB7, FK2'⟩
    have FK2 : Hid (Fits (thn _ E) n2 sK2) := FK2'
    (try simp only [List.nil_append, List.cons_append] at v7)
    clear FK2'
    have q7 := hB7.six q6 (by omega) (by omega)
    have bs7 := hB7.bes bs6 (by omega)
    clear q6 bs6 hB7
    clear h6 v6 cOp
    obtain ⟨a, cap, sx', dx'⟩ := v7.node HTX.out tx3 txt_nil hpos
    have sx : Six w7 w1.heap.size (.string (Em.str oa)) (.string (Em.str (nameS (.ok r)).1)) (.string (Em.str [])) (.int .i64 0) (.int .i64 t.pos) (.slice a 2 cap) := sx'
    have dx : NdB (w1.heap.size + 1) w7 (.mk oa (nameS (.ok r)).1 [] 0 t.pos [n1, n2]) (.agg #[.string (Em.str oa), .string (Em.str (nameS (.ok r)).1), .string (Em.str []), .int .i64 0, .int .i64 t.pos, .slice a 2 cap]) := dx'
    have gf := v7.lt
    clear sx' dx' v7
    obtain ⟨c0, c1, c2, c3, c4, c5, -⟩ := id sx
    obtain ⟨a0, a1, a2, a3, a4, a5, ff0, ff1, ff2, ff3, ff4, ff5⟩ := id q7
    obtain ⟨W, hW, sy, hz, hk, hbb⟩ := q7.set (.string (Em.str oa)) (.string (Em.str (nameS (.ok r)).1)) (.string (Em.str [])) (.int .i64 0) (.int .i64 t.pos) (.slice a 2 cap)
    go_wp2_with fail
    obtain ⟨c0, c1, c2, c3, c4, c5, -⟩ := id sy
    refine bodyPost_ret (v := .agg #[.string (Em.str oa), .string (Em.str (nameS (.ok r)).1), .string (Em.str []), .int .i64 0, .int .i64 t.pos, .slice a 2 cap]) (by simp [results, Tryd.results16, go_sem, c0, c1, c2, c3, c4, c5]) rfl ?_
    refine ⟨_, .mk oa (nameS (.ok r)).1 [] 0 t.pos [n1, n2], _, rfl, ndb_mono (ndb_set dx (by omega) hz hk) (by omega), h7.set hz hk (by omega) (by omega), hbb pb w bs7 (by omega), ?_⟩
    show Fits (exprS S E (t :: r)) _ _
    rw [HXE.out, HOA.out]
    show Fits (thn (.ok r) fun L => bnd (name L) fun x L1 => letT E [108, 101, 116] x [] t.pos L1) _ _
    rw [thn_name]
    unfold letT
    rw [thn_need]
    refine fits_thn FK1.out ?_
    rw [thn_need]
    exact fits_thn FK2.out fits_ok
  · have e1 : t = t1 := HT.out.symm
    subst e1
    have HXE : Hid (exprS S E (t :: r) = bnd (name r) fun x L1 => bnd0 (need [45, 62] L1) fun L2 => bnd (E L2) fun a L3 => .ok (.mk [102, 117, 110] x [] 0 t.pos [a], L3)) := by rw [Hid]; simp [exprS, isW, posL, hk4, htx]
    clear hk4 htx
    have hoa : oa = [102, 117, 110] := by rw [HOA0.out, hfs]
    rw [hfs] at h2
    have qs0 : ((Em.str oa).toList == [114, 101, 99]) = false := by rw [hoa]; exact (Em5.str_eq (by decide) _).trans (by decide)
    have qs1 : ((Em.str oa).toList == [108, 101, 116]) = false := by rw [hoa]; exact (Em5.str_eq (by decide) _).trans (by decide)
    have qs2 : ((Em.str oa).toList == [105, 102]) = false := by rw [hoa]; exact (Em5.str_eq (by decide) _).trans (by decide)
    have qs3 : ((Em.str oa).toList == [109, 97, 116, 99, 104]) = false := by rw [hoa]; exact (Em5.str_eq (by decide) _).trans (by decide)
    have qs4 : ((Em.str oa).toList == [116, 114, 121]) = false := by rw [hoa]; exact (Em5.str_eq (by decide) _).trans (by decide)
    have qs5 : ((Em.str oa).toList == [102, 117, 110]) = true := by rw [hoa]; exact (Em5.str_eq (by decide) _).trans (by decide)
    have HOA : Hid (oa = [102, 117, 110]) := hoa
    have HTX : Hid (Txt oa) := by rw [Hid, hoa]; exact ⟨by decide, by decide⟩
    have HE : Hid (DoesP 55 d E) := HEE.out h2.2
    clear hoa hfs
    obtain ⟨_, _, ⟨cOp, -⟩, -⟩ := id v2
    have tx3 := nameS_txt h2.1
    go_wp2_with fail
    refine (qname_any d _ pb tb (w1.heap.size) _ h2 hpg htg _ _ txt_nil _ _ v2).mono ?_
    rintro e w3 ⟨rfl, h3, v3, hB3⟩
    rw [nmA_nil] at v3
    have q3 := hB3.six q2 (by omega) (by omega)
    have bs3 := hB3.bes bs2 (by omega)
    clear q2 bs2 hB3
    clear h2 v2 cOp
    obtain ⟨_, _, ⟨cOp, -⟩, -⟩ := id v3
    go_wp2_with fail
    refine (qmust_any pb tb d _ [45, 62] _ h3 (by decide) (by decide)).mono ?_
    rintro e w4 ⟨rfl, h4, b4⟩
    have v4 := v3.bes b4 hpg
    have gz4 := v3.lt
    have hB4 := BesB.of b4 (show w1.heap.size ≤ w3.heap.size by omega)
    have q4 := hB4.six q3 (by omega) (by omega)
    have bs4 := hB4.bes bs3 (by omega)
    clear q3 bs3 hB4
    clear h3 v3 cOp b4
    obtain ⟨_, _, ⟨cOp, -⟩, -⟩ := id v4
    go_wp2_with fail
    refine (qkid_any d E HE.out _ pb tb (w1.heap.size) _ h4 hpg htg _ _ _ _ _ (by simp) v4).mono ?_
    rintro e w5 ⟨rfl, n1, sK1, h5, v5, hB5, FK1'⟩
    have FK1 : Hid (Fits (thn _ E) n1 sK1) := FK1'
    (try simp only [List.nil_append, List.cons_append] at v5)
    clear FK1'
    have q5 := hB5.six q4 (by omega) (by omega)
    have bs5 := hB5.bes bs4 (by omega)
    clear q4 bs4 hB5
    clear h4 v4 cOp
    obtain ⟨a, cap, sx', dx'⟩ := v5.node HTX.out tx3 txt_nil hpos
    have sx : Six w5 w1.heap.size (.string (Em.str oa)) (.string (Em.str (nameS (.ok r)).1)) (.string (Em.str [])) (.int .i64 0) (.int .i64 t.pos) (.slice a 1 cap) := sx'
    have dx : NdB (w1.heap.size + 1) w5 (.mk oa (nameS (.ok r)).1 [] 0 t.pos [n1]) (.agg #[.string (Em.str oa), .string (Em.str (nameS (.ok r)).1), .string (Em.str []), .int .i64 0, .int .i64 t.pos, .slice a 1 cap]) := dx'
    have gf := v5.lt
    clear sx' dx' v5
    obtain ⟨c0, c1, c2, c3, c4, c5, -⟩ := id sx
    obtain ⟨a0, a1, a2, a3, a4, a5, ff0, ff1, ff2, ff3, ff4, ff5⟩ := id q5
    obtain ⟨W, hW, sy, hz, hk, hbb⟩ := q5.set (.string (Em.str oa)) (.string (Em.str (nameS (.ok r)).1)) (.string (Em.str [])) (.int .i64 0) (.int .i64 t.pos) (.slice a 1 cap)
    go_wp2_with fail
    obtain ⟨c0, c1, c2, c3, c4, c5, -⟩ := id sy
    refine bodyPost_ret (v := .agg #[.string (Em.str oa), .string (Em.str (nameS (.ok r)).1), .string (Em.str []), .int .i64 0, .int .i64 t.pos, .slice a 1 cap]) (by simp [results, Tryd.results16, go_sem, c0, c1, c2, c3, c4, c5]) rfl ?_
    refine ⟨_, .mk oa (nameS (.ok r)).1 [] 0 t.pos [n1], _, rfl, ndb_mono (ndb_set dx (by omega) hz hk) (by omega), h5.set hz hk (by omega) (by omega), hbb pb w bs5 (by omega), ?_⟩
    show Fits (exprS S E (t :: r)) _ _
    rw [HXE.out, HOA.out]
    show Fits (thn (.ok r) fun L => bnd (name L) fun x L1 => bnd0 (need [45, 62] L1) fun L2 => bnd (E L2) fun a L3 => .ok (.mk [102, 117, 110] x [] 0 t.pos [a], L3)) _ _
    rw [thn_name, thn_need]
    exact fits_thn FK1.out fits_ok
  · have e1 : t = t1 := HT.out.symm
    subst e1
    have HXE : Hid (exprS S E (t :: r) = bnd (E r) fun a L1 => bnd0 (need [116, 104, 101, 110] L1) fun L2 => bnd (E L2) fun b L3 => bnd0 (need [101, 108, 115, 101] L3) fun L4 => bnd (E L4) fun c L5 => .ok (nd [105, 102] t.pos [a, b, c], L5)) := by rw [Hid]; simp [exprS, isW, posL, hk4, htx]
    clear hk4 htx
    have hoa : oa = [105, 102] := by rw [HOA0.out, hfs]
    rw [hfs] at h2
    have qs0 : ((Em.str oa).toList == [114, 101, 99]) = false := by rw [hoa]; exact (Em5.str_eq (by decide) _).trans (by decide)
    have qs1 : ((Em.str oa).toList == [108, 101, 116]) = false := by rw [hoa]; exact (Em5.str_eq (by decide) _).trans (by decide)
    have qs2 : ((Em.str oa).toList == [105, 102]) = true := by rw [hoa]; exact (Em5.str_eq (by decide) _).trans (by decide)
    have qs3 : ((Em.str oa).toList == [109, 97, 116, 99, 104]) = false := by rw [hoa]; exact (Em5.str_eq (by decide) _).trans (by decide)
    have qs4 : ((Em.str oa).toList == [116, 114, 121]) = false := by rw [hoa]; exact (Em5.str_eq (by decide) _).trans (by decide)
    have qs5 : ((Em.str oa).toList == [102, 117, 110]) = false := by rw [hoa]; exact (Em5.str_eq (by decide) _).trans (by decide)
    have HOA : Hid (oa = [105, 102]) := hoa
    have HTX : Hid (Txt oa) := by rw [Hid, hoa]; exact ⟨by decide, by decide⟩
    have HE : Hid (DoesP 55 d E) := HEE.out h2.2
    clear hoa hfs
    obtain ⟨_, _, ⟨cOp, -⟩, -⟩ := id v2
    go_wp2_with fail
    refine (qkid_any d E HE.out _ pb tb (w1.heap.size) _ h2 hpg htg _ _ _ _ _ (by simp) v2).mono ?_
    rintro e w3 ⟨rfl, n1, sK1, h3, v3, hB3, FK1'⟩
    have FK1 : Hid (Fits (thn _ E) n1 sK1) := FK1'
    (try simp only [List.nil_append, List.cons_append] at v3)
    clear FK1'
    have q3 := hB3.six q2 (by omega) (by omega)
    have bs3 := hB3.bes bs2 (by omega)
    clear q2 bs2 hB3
    clear h2 v2 cOp
    obtain ⟨_, _, ⟨cOp, -⟩, -⟩ := id v3
    go_wp2_with fail
    refine (qmust_any pb tb d _ [116, 104, 101, 110] _ h3 (by decide) (by decide)).mono ?_
    rintro e w4 ⟨rfl, h4, b4⟩
    have v4 := v3.bes b4 hpg
    have gz4 := v3.lt
    have hB4 := BesB.of b4 (show w1.heap.size ≤ w3.heap.size by omega)
    have q4 := hB4.six q3 (by omega) (by omega)
    have bs4 := hB4.bes bs3 (by omega)
    clear q3 bs3 hB4
    clear h3 v3 cOp b4
    obtain ⟨_, _, ⟨cOp, -⟩, -⟩ := id v4
    go_wp2_with fail
    refine (qkid_any d E HE.out _ pb tb (w1.heap.size) _ h4 hpg htg _ _ _ _ _ (by simp) v4).mono ?_
    rintro e w5 ⟨rfl, n2, sK2, h5, v5, hB5, FK2'⟩
    have FK2 : Hid (Fits (thn _ E) n2 sK2) := FK2'
    (try simp only [List.nil_append, List.cons_append] at v5)
    clear FK2'
    have q5 := hB5.six q4 (by omega) (by omega)
    have bs5 := hB5.bes bs4 (by omega)
    clear q4 bs4 hB5
    clear h4 v4 cOp
    obtain ⟨_, _, ⟨cOp, -⟩, -⟩ := id v5
    go_wp2_with fail
    refine (qmust_any pb tb d _ [101, 108, 115, 101] _ h5 (by decide) (by decide)).mono ?_
    rintro e w6 ⟨rfl, h6, b6⟩
    have v6 := v5.bes b6 hpg
    have gz6 := v5.lt
    have hB6 := BesB.of b6 (show w1.heap.size ≤ w5.heap.size by omega)
    have q6 := hB6.six q5 (by omega) (by omega)
    have bs6 := hB6.bes bs5 (by omega)
    clear q5 bs5 hB6
    clear h5 v5 cOp b6
    obtain ⟨_, _, ⟨cOp, -⟩, -⟩ := id v6
    go_wp2_with fail
    refine (qkid_any d E HE.out _ pb tb (w1.heap.size) _ h6 hpg htg _ _ _ _ _ (by simp) v6).mono ?_
    rintro e w7 ⟨rfl, n3, sK3, h7, v7, hB7, FK3'⟩
    have FK3 : Hid (Fits (thn _ E) n3 sK3) := FK3'
    (try simp only [List.nil_append, List.cons_append] at v7)
    clear FK3'
    have q7 := hB7.six q6 (by omega) (by omega)
    have bs7 := hB7.bes bs6 (by omega)
    clear q6 bs6 hB7
    clear h6 v6 cOp
    obtain ⟨a, cap, sx', dx'⟩ := v7.node HTX.out txt_nil txt_nil hpos
    have sx : Six w7 w1.heap.size (.string (Em.str oa)) (.string (Em.str [])) (.string (Em.str [])) (.int .i64 0) (.int .i64 t.pos) (.slice a 3 cap) := sx'
    have dx : NdB (w1.heap.size + 1) w7 (.mk oa [] [] 0 t.pos [n1, n2, n3]) (.agg #[.string (Em.str oa), .string (Em.str []), .string (Em.str []), .int .i64 0, .int .i64 t.pos, .slice a 3 cap]) := dx'
    have gf := v7.lt
    clear sx' dx' v7
    obtain ⟨c0, c1, c2, c3, c4, c5, -⟩ := id sx
    obtain ⟨a0, a1, a2, a3, a4, a5, ff0, ff1, ff2, ff3, ff4, ff5⟩ := id q7
    obtain ⟨W, hW, sy, hz, hk, hbb⟩ := q7.set (.string (Em.str oa)) (.string (Em.str [])) (.string (Em.str [])) (.int .i64 0) (.int .i64 t.pos) (.slice a 3 cap)
    go_wp2_with fail
    obtain ⟨c0, c1, c2, c3, c4, c5, -⟩ := id sy
    refine bodyPost_ret (v := .agg #[.string (Em.str oa), .string (Em.str []), .string (Em.str []), .int .i64 0, .int .i64 t.pos, .slice a 3 cap]) (by simp [results, Tryd.results16, go_sem, c0, c1, c2, c3, c4, c5]) rfl ?_
    refine ⟨_, .mk oa [] [] 0 t.pos [n1, n2, n3], _, rfl, ndb_mono (ndb_set dx (by omega) hz hk) (by omega), h7.set hz hk (by omega) (by omega), hbb pb w bs7 (by omega), ?_⟩
    show Fits (exprS S E (t :: r)) _ _
    rw [HXE.out, HOA.out]
    refine fits_bnd FK1.out ?_
    rw [thn_need]
    refine fits_thn FK2.out ?_
    rw [thn_need]
    exact fits_thn FK3.out fits_ok
  · have e1 : t = t1 := HT.out.symm
    subst e1
    have HXE : Hid (exprS S E (t :: r) = matchS E t.pos r) := by rw [Hid]; simp [exprS, isW, posL, hk4, htx]
    clear hk4 htx
    have hoa : oa = [109, 97, 116, 99, 104] := by rw [HOA0.out, hfs]
    rw [hfs] at h2
    have qs0 : ((Em.str oa).toList == [114, 101, 99]) = false := by rw [hoa]; exact (Em5.str_eq (by decide) _).trans (by decide)
    have qs1 : ((Em.str oa).toList == [108, 101, 116]) = false := by rw [hoa]; exact (Em5.str_eq (by decide) _).trans (by decide)
    have qs2 : ((Em.str oa).toList == [105, 102]) = false := by rw [hoa]; exact (Em5.str_eq (by decide) _).trans (by decide)
    have qs3 : ((Em.str oa).toList == [109, 97, 116, 99, 104]) = true := by rw [hoa]; exact (Em5.str_eq (by decide) _).trans (by decide)
    have qs4 : ((Em.str oa).toList == [116, 114, 121]) = false := by rw [hoa]; exact (Em5.str_eq (by decide) _).trans (by decide)
    have qs5 : ((Em.str oa).toList == [102, 117, 110]) = false := by rw [hoa]; exact (Em5.str_eq (by decide) _).trans (by decide)
    have HOA : Hid (oa = [109, 97, 116, 99, 104]) := hoa
    have HTX : Hid (Txt oa) := by rw [Hid, hoa]; exact ⟨by decide, by decide⟩
    have HE : Hid (DoesP 55 d E) := HEE.out h2.2
    clear hoa hfs
    obtain ⟨_, _, ⟨cOp, -⟩, -⟩ := id v2
    go_wp2_with fail
    refine (qkid_any d E HE.out _ pb tb (w1.heap.size) _ h2 hpg htg _ _ _ _ _ (by simp) v2).mono ?_
    rintro e w3 ⟨rfl, n1, sK1, h3, v3, hB3, FK1'⟩
    have FK1 : Hid (Fits (thn _ E) n1 sK1) := FK1'
    (try simp only [List.nil_append, List.cons_append] at v3)
    clear FK1'
    have q3 := hB3.six q2 (by omega) (by omega)
    have bs3 := hB3.bes bs2 (by omega)
    clear q2 bs2 hB3
    clear h2 v2 cOp
    obtain ⟨_, _, ⟨cOp, -⟩, -⟩ := id v3
    go_wp2_with fail
    refine (qmust_any pb tb d _ [119, 105, 116, 104] _ h3 (by decide) (by decide)).mono ?_
    rintro e w4 ⟨rfl, h4, b4⟩
    have v4 := v3.bes b4 hpg
    have gz4 := v3.lt
    have hB4 := BesB.of b4 (show w1.heap.size ≤ w3.heap.size by omega)
    have q4 := hB4.six q3 (by omega) (by omega)
    have bs4 := hB4.bes bs3 (by omega)
    clear q3 bs3 hB4
    clear h3 v3 cOp b4
    obtain ⟨_, _, ⟨cOp, -⟩, -⟩ := id v4
    go_wp2_with fail
    refine (qcase_any d E HE.out _ pb tb (w1.heap.size) _ h4 hpg htg _ _ _ (by simp) v4).mono ?_
    rintro e w5 ⟨rfl, n2, sK2, h5, v5, hB5, FK2', txn, hnn⟩
    have HNN : Hid ((nameS (needS [124] sK2)).1 = [] → ∃ e, (nameS (needS [124] sK2)).2 = .error e) := hnn
    have TXN : Hid (Txt (nameS (needS [124] sK2)).1) := txn
    clear txn hnn
    have FK2 : Hid (Fits (thn _ E) n2 sK2) := FK2'
    (try simp only [List.nil_append, List.cons_append] at v5)
    clear FK2'
    have q5 := hB5.six q4 (by omega) (by omega)
    have bs5 := hB5.bes bs4 (by omega)
    clear q4 bs4 hB5
    clear h4 v4 cOp
    obtain ⟨_, _, ⟨cOp, -⟩, -⟩ := id v5
    have tx6 := nameS_txt h5.1
    go_wp2_with fail
    refine (qname_any d _ pb tb (w1.heap.size) _ h5 hpg htg _ _ TXN.out _ _ v5).mono ?_
    rintro e w6 ⟨rfl, h6, v6, hB6⟩
    rw [nmA_two (fun hx => need_err (HNN.out hx))] at v6
    have q6 := hB6.six q5 (by omega) (by omega)
    have bs6 := hB6.bes bs5 (by omega)
    clear q5 bs5 hB6
    clear h5 v5 cOp
    obtain ⟨_, _, ⟨cOp, -⟩, -⟩ := id v6
    go_wp2_with fail
    refine (qmust_any pb tb d _ [45, 62] _ h6 (by decide) (by decide)).mono ?_
    rintro e w7 ⟨rfl, h7, b7⟩
    have v7 := v6.bes b7 hpg
    have gz7 := v6.lt
    have hB7 := BesB.of b7 (show w1.heap.size ≤ w6.heap.size by omega)
    have q7 := hB7.six q6 (by omega) (by omega)
    have bs7 := hB7.bes bs6 (by omega)
    clear q6 bs6 hB7
    clear h6 v6 cOp b7
    obtain ⟨_, _, ⟨cOp, -⟩, -⟩ := id v7
    go_wp2_with fail
    refine (qkid_any d E HE.out _ pb tb (w1.heap.size) _ h7 hpg htg _ _ _ _ _ (by simp) v7).mono ?_
    rintro e w8 ⟨rfl, n3, sK3, h8, v8, hB8, FK3'⟩
    have FK3 : Hid (Fits (thn _ E) n3 sK3) := FK3'
    (try simp only [List.nil_append, List.cons_append] at v8)
    clear FK3'
    have q8 := hB8.six q7 (by omega) (by omega)
    have bs8 := hB8.bes bs7 (by omega)
    clear q7 bs7 hB8
    clear h7 v7 cOp
    obtain ⟨a, cap, sx', dx'⟩ := v8.node HTX.out TXN.out tx6 hpos
    have sx : Six w8 w1.heap.size (.string (Em.str oa)) (.string (Em.str (nameS (needS [124] sK2)).1)) (.string (Em.str (nameS (needS [58, 58] (nameS (needS [124] sK2)).2)).1)) (.int .i64 0) (.int .i64 t.pos) (.slice a 3 cap) := sx'
    have dx : NdB (w1.heap.size + 1) w8 (.mk oa (nameS (needS [124] sK2)).1 (nameS (needS [58, 58] (nameS (needS [124] sK2)).2)).1 0 t.pos [n1, n2, n3]) (.agg #[.string (Em.str oa), .string (Em.str (nameS (needS [124] sK2)).1), .string (Em.str (nameS (needS [58, 58] (nameS (needS [124] sK2)).2)).1), .int .i64 0, .int .i64 t.pos, .slice a 3 cap]) := dx'
    have gf := v8.lt
    clear sx' dx' v8
    obtain ⟨c0, c1, c2, c3, c4, c5, -⟩ := id sx
    obtain ⟨a0, a1, a2, a3, a4, a5, ff0, ff1, ff2, ff3, ff4, ff5⟩ := id q8
    obtain ⟨W, hW, sy, hz, hk, hbb⟩ := q8.set (.string (Em.str oa)) (.string (Em.str (nameS (needS [124] sK2)).1)) (.string (Em.str (nameS (needS [58, 58] (nameS (needS [124] sK2)).2)).1)) (.int .i64 0) (.int .i64 t.pos) (.slice a 3 cap)
    go_wp2_with fail
    obtain ⟨c0, c1, c2, c3, c4, c5, -⟩ := id sy
    refine bodyPost_ret (v := .agg #[.string (Em.str oa), .string (Em.str (nameS (needS [124] sK2)).1), .string (Em.str (nameS (needS [58, 58] (nameS (needS [124] sK2)).2)).1), .int .i64 0, .int .i64 t.pos, .slice a 3 cap]) (by simp [results, Tryd.results16, go_sem, c0, c1, c2, c3, c4, c5]) rfl ?_
    refine ⟨_, .mk oa (nameS (needS [124] sK2)).1 (nameS (needS [58, 58] (nameS (needS [124] sK2)).2)).1 0 t.pos [n1, n2, n3], _, rfl, ndb_mono (ndb_set dx (by omega) hz hk) (by omega), h8.set hz hk (by omega) (by omega), hbb pb w bs8 (by omega), ?_⟩
    show Fits (exprS S E (t :: r)) _ _
    rw [HXE.out, HOA.out]
    unfold matchS
    refine fits_bnd FK1.out ?_
    rw [thn_need, thn_need, thn_need, thn_need]
    refine fits_thn FK2.out ?_
    rw [thn_need, thn_name, thn_need, thn_name, thn_need]
    exact fits_thn FK3.out fits_ok
  · have e1 : t = t1 := HT.out.symm
    subst e1
    have HXE : Hid (exprS S E (t :: r) = bnd (E r) fun a L1 => bnd0 (need [119, 105, 116, 104] L1) fun L2 => bnd (name L2) fun x L3 => bnd0 (need [45, 62] L3) fun L4 => bnd (E L4) fun b L5 => .ok (.mk [116, 114, 121] x [] 0 t.pos [a, b], L5)) := by rw [Hid]; simp [exprS, isW, posL, hk4, htx]
    clear hk4 htx
    have hoa : oa = [116, 114, 121] := by rw [HOA0.out, hfs]
    rw [hfs] at h2
    have qs0 : ((Em.str oa).toList == [114, 101, 99]) = false := by rw [hoa]; exact (Em5.str_eq (by decide) _).trans (by decide)
    have qs1 : ((Em.str oa).toList == [108, 101, 116]) = false := by rw [hoa]; exact (Em5.str_eq (by decide) _).trans (by decide)
    have qs2 : ((Em.str oa).toList == [105, 102]) = false := by rw [hoa]; exact (Em5.str_eq (by decide) _).trans (by decide)
    have qs3 : ((Em.str oa).toList == [109, 97, 116, 99, 104]) = false := by rw [hoa]; exact (Em5.str_eq (by decide) _).trans (by decide)
    have qs4 : ((Em.str oa).toList == [116, 114, 121]) = true := by rw [hoa]; exact (Em5.str_eq (by decide) _).trans (by decide)
    have qs5 : ((Em.str oa).toList == [102, 117, 110]) = false := by rw [hoa]; exact (Em5.str_eq (by decide) _).trans (by decide)
    have HOA : Hid (oa = [116, 114, 121]) := hoa
    have HTX : Hid (Txt oa) := by rw [Hid, hoa]; exact ⟨by decide, by decide⟩
    have HE : Hid (DoesP 55 d E) := HEE.out h2.2
    clear hoa hfs
    obtain ⟨_, _, ⟨cOp, -⟩, -⟩ := id v2
    go_wp2_with fail
    refine (qkid_any d E HE.out _ pb tb (w1.heap.size) _ h2 hpg htg _ _ _ _ _ (by simp) v2).mono ?_
    rintro e w3 ⟨rfl, n1, sK1, h3, v3, hB3, FK1'⟩
    have FK1 : Hid (Fits (thn _ E) n1 sK1) := FK1'
    (try simp only [List.nil_append, List.cons_append] at v3)
    clear FK1'
    have q3 := hB3.six q2 (by omega) (by omega)
    have bs3 := hB3.bes bs2 (by omega)
    clear q2 bs2 hB3
    clear h2 v2 cOp
    obtain ⟨_, _, ⟨cOp, -⟩, -⟩ := id v3
    go_wp2_with fail
    refine (qmust_any pb tb d _ [119, 105, 116, 104] _ h3 (by decide) (by decide)).mono ?_
    rintro e w4 ⟨rfl, h4, b4⟩
    have v4 := v3.bes b4 hpg
    have gz4 := v3.lt
    have hB4 := BesB.of b4 (show w1.heap.size ≤ w3.heap.size by omega)
    have q4 := hB4.six q3 (by omega) (by omega)
    have bs4 := hB4.bes bs3 (by omega)
    clear q3 bs3 hB4
    clear h3 v3 cOp b4
    obtain ⟨_, _, ⟨cOp, -⟩, -⟩ := id v4
    have tx5 := nameS_txt h4.1
    go_wp2_with fail
    refine (qname_any d _ pb tb (w1.heap.size) _ h4 hpg htg _ _ txt_nil _ _ v4).mono ?_
    rintro e w5 ⟨rfl, h5, v5, hB5⟩
    rw [nmA_nil] at v5
    have q5 := hB5.six q4 (by omega) (by omega)
    have bs5 := hB5.bes bs4 (by omega)
    clear q4 bs4 hB5
    clear h4 v4 cOp
    obtain ⟨_, _, ⟨cOp, -⟩, -⟩ := id v5
    go_wp2_with fail
    refine (qmust_any pb tb d _ [45, 62] _ h5 (by decide) (by decide)).mono ?_
    rintro e w6 ⟨rfl, h6, b6⟩
    have v6 := v5.bes b6 hpg
    have gz6 := v5.lt
    have hB6 := BesB.of b6 (show w1.heap.size ≤ w5.heap.size by omega)
    have q6 := hB6.six q5 (by omega) (by omega)
    have bs6 := hB6.bes bs5 (by omega)
    clear q5 bs5 hB6
    clear h5 v5 cOp b6
    obtain ⟨_, _, ⟨cOp, -⟩, -⟩ := id v6
    go_wp2_with fail
    refine (qkid_any d E HE.out _ pb tb (w1.heap.size) _ h6 hpg htg _ _ _ _ _ (by simp) v6).mono ?_
    rintro e w7 ⟨rfl, n2, sK2, h7, v7, hB7, FK2'⟩
    have FK2 : Hid (Fits (thn _ E) n2 sK2) := FK2'
    (try simp only [List.nil_append, List.cons_append] at v7)
    clear FK2'
    have q7 := hB7.six q6 (by omega) (by omega)
    have bs7 := hB7.bes bs6 (by omega)
    clear q6 bs6 hB7
    clear h6 v6 cOp
    obtain ⟨a, cap, sx', dx'⟩ := v7.node HTX.out tx5 txt_nil hpos
    have sx : Six w7 w1.heap.size (.string (Em.str oa)) (.string (Em.str (nameS (needS [119, 105, 116, 104] sK1)).1)) (.string (Em.str [])) (.int .i64 0) (.int .i64 t.pos) (.slice a 2 cap) := sx'
    have dx : NdB (w1.heap.size + 1) w7 (.mk oa (nameS (needS [119, 105, 116, 104] sK1)).1 [] 0 t.pos [n1, n2]) (.agg #[.string (Em.str oa), .string (Em.str (nameS (needS [119, 105, 116, 104] sK1)).1), .string (Em.str []), .int .i64 0, .int .i64 t.pos, .slice a 2 cap]) := dx'
    have gf := v7.lt
    clear sx' dx' v7
    obtain ⟨c0, c1, c2, c3, c4, c5, -⟩ := id sx
    obtain ⟨a0, a1, a2, a3, a4, a5, ff0, ff1, ff2, ff3, ff4, ff5⟩ := id q7
    obtain ⟨W, hW, sy, hz, hk, hbb⟩ := q7.set (.string (Em.str oa)) (.string (Em.str (nameS (needS [119, 105, 116, 104] sK1)).1)) (.string (Em.str [])) (.int .i64 0) (.int .i64 t.pos) (.slice a 2 cap)
    go_wp2_with fail
    obtain ⟨c0, c1, c2, c3, c4, c5, -⟩ := id sy
    refine bodyPost_ret (v := .agg #[.string (Em.str oa), .string (Em.str (nameS (needS [119, 105, 116, 104] sK1)).1), .string (Em.str []), .int .i64 0, .int .i64 t.pos, .slice a 2 cap]) (by simp [results, Tryd.results16, go_sem, c0, c1, c2, c3, c4, c5]) rfl ?_
    refine ⟨_, .mk oa (nameS (needS [119, 105, 116, 104] sK1)).1 [] 0 t.pos [n1, n2], _, rfl, ndb_mono (ndb_set dx (by omega) hz hk) (by omega), h7.set hz hk (by omega) (by omega), hbb pb w bs7 (by omega), ?_⟩
    show Fits (exprS S E (t :: r)) _ _
    rw [HXE.out, HOA.out]
    refine fits_bnd FK1.out ?_
    rw [thn_need, thn_name, thn_need]
    exact fits_thn FK2.out fits_ok
end Go.Proofs.YtgojjknbingfpaaDoor

namespace Go.Em6
open Go.RowKit Go.Em4 Go.Em5
theorem tokAt_kok {c : Int} {r : List Int} {k : Int} {t : List Int} {n : Int} {m : Nat} (h : tokAt (c :: r) = some (k, t, n, m)) : (1 ≤ k ∧ k ≤ 5) ∧ (k = 1 → t ≠ []) := by
  rw [tokAt] at h
  split at h
  · unfold nameAt at h
    simp only at h
    split at h
    · simp only [Option.some.injEq, Prod.mk.injEq] at h
      obtain ⟨rfl, -⟩ := h
      exact ⟨by omega, fun h => by omega⟩
    · split at h
      · cases h
      · simp only [Option.some.injEq, Prod.mk.injEq] at h
        obtain ⟨rfl, rfl, -⟩ := h
        refine ⟨by omega, fun _ he => ?_⟩
        have := congrArg List.length he
        simp at this
  · split at h
    · unfold numAt at h
      simp only at h
      split at h
      · cases h
      · simp only [Option.some.injEq, Prod.mk.injEq] at h
        obtain ⟨rfl, -⟩ := h
        exact ⟨by omega, fun h => by omega⟩
    · split at h
      · unfold strAt at h
        simp only at h
        split at h
        · cases h
        · simp only [Option.some.injEq, Prod.mk.injEq] at h
          obtain ⟨rfl, -⟩ := h
          exact ⟨by omega, fun h => by omega⟩
      · unfold sgnAt at h
        split at h
        · cases h
        · simp only [Option.some.injEq, Prod.mk.injEq] at h
          obtain ⟨rfl, -⟩ := h
          exact ⟨by omega, fun h => by omega⟩
theorem toksF_kok : ∀ (f i : Nat) (L : List Int) (T : List Tok), toksF f i L = .ok T → ∀ t ∈ T, KOk t
  | f, i, [], T, h => by
    have h : toksF f i [] = .ok T := h
    rw [show toksF f i [] = .ok [⟨5, [], 0, i⟩] by cases f <;> rfl] at h
    injection h with h
    subst h
    intro t ht
    simp at ht
    subst ht
    exact ⟨⟨by show (1 : Int) ≤ 5; decide, by show (5 : Int) ≤ 5; decide⟩, fun h => absurd h (by show ¬ (5 : Int) = 1; decide)⟩
  | 0, i, c :: r, T, h => by
    injection h with h
    subst h
    intro t ht
    cases ht
  | f + 1, i, c :: r, T, h => by
    rw [toksF] at h
    split at h
    · exact toksF_kok f _ _ T h
    · split at h
      · cases h
      · rename_i k t n m ha
        split at h
        · cases h
        · rename_i l hl
          injection h with h
          subst h
          intro x hx
          rcases List.mem_cons.1 hx with rfl | hx
          · exact tokAt_kok ha
          · exact toksF_kok f _ _ l hl x hx
theorem toks_kok {L : List Int} {T : List Tok} (h : toks L = .ok T) : ∀ t ∈ T, KOk t := toksF_kok _ _ _ _ h
end Go.Em6
namespace Go.Proofs.YtgojjknbingfpaaDoor
open Go.RowKit Go.Em5 Go.Em6

theorem qmid_does (d : Nat) (A : List Em4.Tok → R) (hA : DoesP 91 d A) (hS : Shr A) : DoesP 56 d (mid A) :=
  qset_does d _ (qcmp_does d _ (qcons_does d _ (qsum_does d _ (qprod_does d _ (qapp_does d _ hA hS) (shr_app hS)) (shr_prod (shr_app hS))) (shr_sum (shr_prod (shr_app hS)))))
theorem does_any {k : Nat} {F G : List Em4.Tok → R} (h : DoesP k 40 F) : DoesP k 40 G := by
  intro s w pb tb hp
  cases s with
  | ok L => exact absurd hp.2 (Nat.lt_irrefl _)
  | error e => exact h (.error e) w pb tb hp
theorem deeperF_lev1 (f : Nat) (hf : f ≤ 39) : deeperF (39 - f) (lev f).1 = (lev f).1 := by
  cases f with
  | zero => funext L; rfl
  | succ f => exact deeperF_ne (by omega)
theorem deeperF_lev2 (f : Nat) (hf : f ≤ 39) : deeperF (39 - f) (lev f).2 = (lev f).2 := by
  cases f with
  | zero => funext L; rfl
  | succ f => exact deeperF_ne (by omega)
set_option maxRecDepth 100000 in
theorem qlev_does : ∀ f, f ≤ 40 → DoesP 16 (40 - f) (lev f).1 ∧ DoesP 91 (40 - f) (lev f).2
  | 0, _ => by
    have hA : DoesP 91 40 (atomS (lev 0).1 (lev 0).2) := qatom_does 40 _ _ (fun h => by omega) (fun h => by omega)
    have hA1 : DoesP 91 40 (lev 0).2 := does_any hA
    refine ⟨does_any (qexpr_does 40 (mid (lev 0).2) (lev 0).1 (qseq_does 40 _ _ (qmid_does 40 _ hA1 (shr_lev 0).2) (fun h => by omega)) (fun h => by omega)), hA1⟩
  | f + 1, hf => by
    obtain ⟨hE, hA⟩ := qlev_does f (by omega)
    have e1 : 40 - (f + 1) = 39 - f := by omega
    have ed : 40 - f = 39 - f + 1 := by omega
    rw [ed] at hE hA
    rw [e1]
    have hI : DoesP 55 (39 - f) (lev f).1 := by
      have := qinner_does (39 - f) _ hE (by omega)
      rwa [deeperF_lev1 f (by omega)] at this
    have hD : ∀ (w : World) (pb tb : Nat) (s : St), IsPs w pb tb (39 - f) s → Calls Tryd.prog 75 #[PP pb, MV 91 pb] w (PostP (lev f).2 pb tb (39 - f) s w) := fun w pb tb s h => by
      have := qdeeper_any 91 (39 - f) _ hA (fun _ _ => rfl) (by omega) w pb tb s h
      rwa [deeperF_lev2 f (by omega)] at this
    have hA1 : DoesP 91 (39 - f) (lev (f + 1)).2 := qatom_does (39 - f) _ _ (fun _ => hI) (fun _ => hD)
    refine ⟨?_, hA1⟩
    exact qexpr_does (39 - f) (mid (lev (f + 1)).2) (lev f).1 (qseq_does _ _ _ (qmid_does _ _ hA1 (shr_lev (f + 1)).2) (fun _ => hI)) (fun _ => hI)
/-- The expr of a whole text. -/
theorem qexpr_whole : DoesP 16 0 (lev 40).1 := (qlev_does 40 (Nat.le_refl _)).1
end Go.Proofs.YtgojjknbingfpaaDoor

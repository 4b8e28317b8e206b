/- What 'caseOfNil' of the program's parser answers; by which words an expr begins. -/
import Derived.Test.YtgojjknbingfpaaDoorPaL
import Derived.Test.YtgojjknbingfpaaDoorPaD
namespace Go.Proofs.YtgojjknbingfpaaDoor
open Go.RowKit Go.Em5 Go.Em6
set_option linter.unusedSimpArgs false

theorem nmA_nil (s : St) : nmA [] s = ((nameS s).1, []) := by rw [nmA, if_pos rfl]
theorem nmA_two {x : List Int} {s : St} (h : x = [] → ∃ e, s = .error e) : nmA x s = (x, (nameS s).1) := by
  by_cases hx : x = []
  · obtain ⟨e, rfl⟩ := h hx
    subst hx
    rfl
  · rw [nmA, if_neg hx]
theorem need_err {x : List Int} {s : St} (h : ∃ e, s = .error e) : ∃ e, needS x s = .error e := by
  obtain ⟨e, rfl⟩ := h
  exact ⟨e, rfl⟩
theorem eatS_ok {x : List Int} {s : St} (h : isWS x s = true) : ∃ t r, s = .ok (t :: r) ∧ t.kind = 4 ∧ t.text = x ∧ eatS x s = .ok r := by
  obtain ⟨t, r, rfl, h4, ht, -⟩ := isWS_ok h
  exact ⟨t, r, rfl, h4, ht, eatS_t h⟩
theorem expr_seq {S E : List Em4.Tok → R} {s : St} (h : formS s = ([], s) ∧ isWS [108, 101, 116] s = false ∧ isWS [102, 117, 110] s = false ∧ isWS [105, 102] s = false ∧ isWS [109, 97, 116, 99, 104] s = false ∧ isWS [116, 114, 121] s = false) : thn s (exprS S E) = thn s (seqS S E) := by
  obtain ⟨-, h1, h2, h3, h4, h5⟩ := h
  cases s with
  | error e => rfl
  | ok L =>
    have h1 : isW [108, 101, 116] L = false := h1
    have h2 : isW [102, 117, 110] L = false := h2
    have h3 : isW [105, 102] L = false := h3
    have h4 : isW [109, 97, 116, 99, 104] L = false := h4
    have h5 : isW [116, 114, 121] L = false := h5
    show exprS S E L = seqS S E L
    unfold exprS
    rw [if_neg (by rw [h1]; decide), if_neg (by rw [h2]; decide), if_neg (by rw [h3]; decide), if_neg (by rw [h4]; decide), if_neg (by rw [h5]; decide)]
    rfl
/-- By which words an expr begins. -/
theorem form_cases (s : St) : (formS s = ([], s) ∧ isWS [108, 101, 116] s = false ∧ isWS [102, 117, 110] s = false ∧ isWS [105, 102] s = false ∧ isWS [109, 97, 116, 99, 104] s = false ∧ isWS [116, 114, 121] s = false) ∨
    (∃ t t' r, s = .ok (t :: t' :: r) ∧ t.kind = 4 ∧ t.text = [108, 101, 116] ∧ t'.kind = 4 ∧ t'.text = [114, 101, 99] ∧ formS s = ([114, 101, 99], .ok r)) ∨
    (∃ t r, s = .ok (t :: r) ∧ t.kind = 4 ∧ t.text = [108, 101, 116] ∧ isW [114, 101, 99] r = false ∧ formS s = ([108, 101, 116], .ok r)) ∨
    (∃ t r, s = .ok (t :: r) ∧ t.kind = 4 ∧ t.text = [102, 117, 110] ∧ formS s = ([102, 117, 110], .ok r)) ∨
    (∃ t r, s = .ok (t :: r) ∧ t.kind = 4 ∧ t.text = [105, 102] ∧ formS s = ([105, 102], .ok r)) ∨
    (∃ t r, s = .ok (t :: r) ∧ t.kind = 4 ∧ t.text = [109, 97, 116, 99, 104] ∧ formS s = ([109, 97, 116, 99, 104], .ok r)) ∨
    (∃ t r, s = .ok (t :: r) ∧ t.kind = 4 ∧ t.text = [116, 114, 121] ∧ formS s = ([116, 114, 121], .ok r)) := by
  unfold formS
  by_cases h1 : isWS [108, 101, 116] s = true
  · obtain ⟨t, r, rfl, k4, kt, ke⟩ := eatS_ok h1
    rw [if_pos h1, ke]
    by_cases h2 : isWS [114, 101, 99] (.ok r) = true
    · obtain ⟨t', r', e2, k4', kt', ke'⟩ := eatS_ok h2
      injection e2 with e2
      subst e2
      rw [if_pos h2, ke']
      exact .inr (.inl ⟨t, t', r', rfl, k4, kt, k4', kt', rfl⟩)
    · rw [if_neg h2]
      exact .inr (.inr (.inl ⟨t, r, rfl, k4, kt, by show isWS _ (.ok r) = false; simpa using h2, rfl⟩))
  rw [if_neg h1]
  by_cases h2 : isWS [102, 117, 110] s = true
  · obtain ⟨t, r, rfl, k4, kt, ke⟩ := eatS_ok h2
    rw [if_pos h2, ke]
    exact .inr (.inr (.inr (.inl ⟨t, r, rfl, k4, kt, rfl⟩)))
  rw [if_neg h2]
  by_cases h3 : isWS [105, 102] s = true
  · obtain ⟨t, r, rfl, k4, kt, ke⟩ := eatS_ok h3
    rw [if_pos h3, ke]
    exact .inr (.inr (.inr (.inr (.inl ⟨t, r, rfl, k4, kt, rfl⟩))))
  rw [if_neg h3]
  by_cases h4 : isWS [109, 97, 116, 99, 104] s = true
  · obtain ⟨t, r, rfl, k4, kt, ke⟩ := eatS_ok h4
    rw [if_pos h4, ke]
    exact .inr (.inr (.inr (.inr (.inr (.inl ⟨t, r, rfl, k4, kt, rfl⟩)))))
  rw [if_neg h4]
  by_cases h5 : isWS [116, 114, 121] s = true
  · obtain ⟨t, r, rfl, k4, kt, ke⟩ := eatS_ok h5
    rw [if_pos h5, ke]
    exact .inr (.inr (.inr (.inr (.inr (.inr ⟨t, r, rfl, k4, kt, rfl⟩)))))
  rw [if_neg h5]
  exact .inl ⟨rfl, by simpa using h1, by simpa using h2, by simpa using h3, by simpa using h4, by simpa using h5⟩
set_option maxRecDepth 100000 in
set_option maxHeartbeats 4000000 in
theorem qcase_any (d : Nat) (E : List Em4.Tok → R) (hI : DoesP 55 d E) (w0 : World) (pb tb g : Nat) (s : St) (h : IsPs w0 pb tb d s) (hpg : pb < g) (htg : tb < g) (op : List Int) (p : Nat) (l : List Nd) (hl : l.length ≤ 9) (hv : KV 24 w0 g op [] [] p l) :
    Calls Tryd.prog 33 #[PP pb, PP g] w0 fun e w' => e = .returned (.tuple #[]) ∧ ∃ n sK, IsPs w' pb tb d (needS [58, 58] (nameS (needS [124] sK)).2) ∧ KV 24 w' g op (nameS (needS [124] sK)).1 [] p (l ++ [n]) ∧ BesB g pb w0 w' ∧ Fits (thn (needS [45, 62] (needS [93] (needS [91] s))) E) n sK ∧ Txt (nameS (needS [124] sK)).1 ∧ ((nameS (needS [124] sK)).1 = [] → ∃ e, (nameS (needS [124] sK)).2 = .error e) := by
  have HE : Hid (DoesP 55 d E) := hI
  have hl10 : l.length ≤ 10 := by omega
  have h0 := h
  have v0 := hv
  have bs0 := BesB.refl g pb w0
  clear h hv hI
  go_enter Tryd.func33, Tryd.ntmps33
  go_wp2_with fail
  refine (qmust_any pb tb d _ [91] _ h0 (by decide) (by decide)).mono ?_
  rintro e w1 ⟨rfl, h1, b1⟩
  have v1 := v0.bes b1 hpg
  have gz1 := v0.lt
  have hB1 := BesB.of b1 (show g ≤ w0.heap.size by omega)
  have bs1 := bs0.trans hB1
  clear bs0 hB1
  clear h0 v0 b1
  go_wp2_with fail
  refine (qmust_any pb tb d _ [93] _ h1 (by decide) (by decide)).mono ?_
  rintro e w2 ⟨rfl, h2, b2⟩
  have v2 := v1.bes b2 hpg
  have gz2 := v1.lt
  have hB2 := BesB.of b2 (show g ≤ w1.heap.size by omega)
  have bs2 := bs1.trans hB2
  clear bs1 hB2
  clear h1 v1 b2
  go_wp2_with fail
  refine (qmust_any pb tb d _ [45, 62] _ h2 (by decide) (by decide)).mono ?_
  rintro e w3 ⟨rfl, h3, b3⟩
  have v3 := v2.bes b3 hpg
  have gz3 := v2.lt
  have hB3 := BesB.of b3 (show g ≤ w2.heap.size by omega)
  have bs3 := bs2.trans hB3
  clear bs2 hB3
  clear h2 v2 b3
  go_wp2_with fail
  refine (qkid_any d E HE.out _ pb tb g _ h3 hpg htg _ _ _ _ _ hl10 v3).mono ?_
  rintro e w4 ⟨rfl, n1, sK1, h4, v4, hB4, FK1'⟩
  have FK1 : Hid (Fits (thn _ E) n1 sK1) := FK1'
  (try simp only [List.nil_append, List.cons_append] at v4)
  clear FK1'
  have bs4 := bs3.trans hB4
  clear bs3 hB4
  clear h3 v3
  go_wp2_with fail
  refine (qmust_any pb tb d _ [124] _ h4 (by decide) (by decide)).mono ?_
  rintro e w5 ⟨rfl, h5, b5⟩
  have v5 := v4.bes b5 hpg
  have gz5 := v4.lt
  have hB5 := BesB.of b5 (show g ≤ w4.heap.size by omega)
  have bs5 := bs4.trans hB5
  clear bs4 hB5
  clear h4 v4 b5
  have tx6 := nameS_txt h5.1
  have HNI := nameS_nil h5.1
  go_wp2_with fail
  refine (qname_any d _ pb tb g _ h5 hpg htg _ _ txt_nil _ _ v5).mono ?_
  rintro e w6 ⟨rfl, h6, v6, hB6⟩
  rw [nmA_nil] at v6
  have bs6 := bs5.trans hB6
  clear bs5 hB6
  clear h5 v5
  go_wp2_with fail
  refine (qmust_any pb tb d _ [58, 58] _ h6 (by decide) (by decide)).mono ?_
  rintro e w7 ⟨rfl, h7, b7⟩
  have v7 := v6.bes b7 hpg
  have gz7 := v6.lt
  have hB7 := BesB.of b7 (show g ≤ w6.heap.size by omega)
  have bs7 := bs6.trans hB7
  clear bs6 hB7
  clear h6 v6 b7
  go_wp2_with fail
  (try simp only [Exit.inBlock, Exit.then])
  refine bodyPost_end (results_none rfl _ _ _) rfl ?_
  exact ⟨rfl, n1, sK1, h7, v7, bs7, FK1.out, tx6, HNI⟩
end Go.Proofs.YtgojjknbingfpaaDoor

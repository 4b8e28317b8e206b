/- What 'parens' of the program's parser answers. -/
import Derived.Test.YtgojjknbingfpaaDoorPaF
import Derived.Test.YtgojjknbingfpaaDoorRPaR
namespace Go.Em6
open Go.RowKit Go.Em5
theorem Six.set0 {w : World} {g : Nat} {u0 u1 u2 u3 u4 u5 : Value} (h : Six w g u0 u1 u2 u3 u4 u5) (v0 : Value) :
    ∃ W, (w.setCell ⟨g, 0, none⟩ v0) = W ∧ Six W g v0 u1 u2 u3 u4 u5 ∧ W.heap.size = w.heap.size ∧ (∀ k, k ≠ g → W.heap[k]? = w.heap[k]?) ∧ (∀ pb a, Bes pb a w → a.heap.size ≤ g → Bes pb a W) := by
  have other : ∀ (w : World) (o j : Nat) (v : Value), j ≠ o → (w.setCell ⟨g, o, none⟩ v).cell? ⟨g, j, none⟩ = w.cell? ⟨g, j, none⟩ := fun w o j v hj => World.cell?_setCell_other _ _ _ _ (fun e => hj (by injection e with e1 e2; exact e2.symm))
  have same : ∀ (w : World) (o : Nat) (v u : Value), w.cell? ⟨g, o, none⟩ = some u → (w.setCell ⟨g, o, none⟩ v).cell? ⟨g, o, none⟩ = some v := fun w o v u hu => World.cell?_setCell_same' w ⟨g, o, none⟩ v (by rw [hu]; rfl)
  refine ⟨_, rfl, ⟨?_, ?_, ?_, ?_, ?_, ?_, ?_, ?_, ?_, ?_, ?_, ?_⟩, by simp, fun k hk => by rw [Below.heap_setCell _ _ _ _ hk], fun pb a hb hg => (hb.setCell (.inr hg) _)⟩
  · exact same _ _ _ _ h.c0
  · rw [other _ _ _ _ (by omega)]; exact h.c1
  · rw [other _ _ _ _ (by omega)]; exact h.c2
  · rw [other _ _ _ _ (by omega)]; exact h.c3
  · rw [other _ _ _ _ (by omega)]; exact h.c4
  · rw [other _ _ _ _ (by omega)]; exact h.c5
  · simp only [World.frozen?_setCell]; exact h.f0
  · simp only [World.frozen?_setCell]; exact h.f1
  · simp only [World.frozen?_setCell]; exact h.f2
  · simp only [World.frozen?_setCell]; exact h.f3
  · simp only [World.frozen?_setCell]; exact h.f4
  · simp only [World.frozen?_setCell]; exact h.f5
theorem Six.set1 {w : World} {g : Nat} {u0 u1 u2 u3 u4 u5 : Value} (h : Six w g u0 u1 u2 u3 u4 u5) (v1 : Value) :
    ∃ W, (w.setCell ⟨g, 1, none⟩ v1) = W ∧ Six W g u0 v1 u2 u3 u4 u5 ∧ W.heap.size = w.heap.size ∧ (∀ k, k ≠ g → W.heap[k]? = w.heap[k]?) ∧ (∀ pb a, Bes pb a w → a.heap.size ≤ g → Bes pb a W) := by
  have other : ∀ (w : World) (o j : Nat) (v : Value), j ≠ o → (w.setCell ⟨g, o, none⟩ v).cell? ⟨g, j, none⟩ = w.cell? ⟨g, j, none⟩ := fun w o j v hj => World.cell?_setCell_other _ _ _ _ (fun e => hj (by injection e with e1 e2; exact e2.symm))
  have same : ∀ (w : World) (o : Nat) (v u : Value), w.cell? ⟨g, o, none⟩ = some u → (w.setCell ⟨g, o, none⟩ v).cell? ⟨g, o, none⟩ = some v := fun w o v u hu => World.cell?_setCell_same' w ⟨g, o, none⟩ v (by rw [hu]; rfl)
  refine ⟨_, rfl, ⟨?_, ?_, ?_, ?_, ?_, ?_, ?_, ?_, ?_, ?_, ?_, ?_⟩, by simp, fun k hk => by rw [Below.heap_setCell _ _ _ _ hk], fun pb a hb hg => (hb.setCell (.inr hg) _)⟩
  · rw [other _ _ _ _ (by omega)]; exact h.c0
  · exact same _ _ _ _ h.c1
  · rw [other _ _ _ _ (by omega)]; exact h.c2
  · rw [other _ _ _ _ (by omega)]; exact h.c3
  · rw [other _ _ _ _ (by omega)]; exact h.c4
  · rw [other _ _ _ _ (by omega)]; exact h.c5
  · simp only [World.frozen?_setCell]; exact h.f0
  · simp only [World.frozen?_setCell]; exact h.f1
  · simp only [World.frozen?_setCell]; exact h.f2
  · simp only [World.frozen?_setCell]; exact h.f3
  · simp only [World.frozen?_setCell]; exact h.f4
  · simp only [World.frozen?_setCell]; exact h.f5
theorem Six.set2 {w : World} {g : Nat} {u0 u1 u2 u3 u4 u5 : Value} (h : Six w g u0 u1 u2 u3 u4 u5) (v2 : Value) :
    ∃ W, (w.setCell ⟨g, 2, none⟩ v2) = W ∧ Six W g u0 u1 v2 u3 u4 u5 ∧ W.heap.size = w.heap.size ∧ (∀ k, k ≠ g → W.heap[k]? = w.heap[k]?) ∧ (∀ pb a, Bes pb a w → a.heap.size ≤ g → Bes pb a W) := by
  have other : ∀ (w : World) (o j : Nat) (v : Value), j ≠ o → (w.setCell ⟨g, o, none⟩ v).cell? ⟨g, j, none⟩ = w.cell? ⟨g, j, none⟩ := fun w o j v hj => World.cell?_setCell_other _ _ _ _ (fun e => hj (by injection e with e1 e2; exact e2.symm))
  have same : ∀ (w : World) (o : Nat) (v u : Value), w.cell? ⟨g, o, none⟩ = some u → (w.setCell ⟨g, o, none⟩ v).cell? ⟨g, o, none⟩ = some v := fun w o v u hu => World.cell?_setCell_same' w ⟨g, o, none⟩ v (by rw [hu]; rfl)
  refine ⟨_, rfl, ⟨?_, ?_, ?_, ?_, ?_, ?_, ?_, ?_, ?_, ?_, ?_, ?_⟩, by simp, fun k hk => by rw [Below.heap_setCell _ _ _ _ hk], fun pb a hb hg => (hb.setCell (.inr hg) _)⟩
  · rw [other _ _ _ _ (by omega)]; exact h.c0
  · rw [other _ _ _ _ (by omega)]; exact h.c1
  · exact same _ _ _ _ h.c2
  · rw [other _ _ _ _ (by omega)]; exact h.c3
  · rw [other _ _ _ _ (by omega)]; exact h.c4
  · rw [other _ _ _ _ (by omega)]; exact h.c5
  · simp only [World.frozen?_setCell]; exact h.f0
  · simp only [World.frozen?_setCell]; exact h.f1
  · simp only [World.frozen?_setCell]; exact h.f2
  · simp only [World.frozen?_setCell]; exact h.f3
  · simp only [World.frozen?_setCell]; exact h.f4
  · simp only [World.frozen?_setCell]; exact h.f5
theorem Six.set3 {w : World} {g : Nat} {u0 u1 u2 u3 u4 u5 : Value} (h : Six w g u0 u1 u2 u3 u4 u5) (v3 : Value) :
    ∃ W, (w.setCell ⟨g, 3, none⟩ v3) = W ∧ Six W g u0 u1 u2 v3 u4 u5 ∧ W.heap.size = w.heap.size ∧ (∀ k, k ≠ g → W.heap[k]? = w.heap[k]?) ∧ (∀ pb a, Bes pb a w → a.heap.size ≤ g → Bes pb a W) := by
  have other : ∀ (w : World) (o j : Nat) (v : Value), j ≠ o → (w.setCell ⟨g, o, none⟩ v).cell? ⟨g, j, none⟩ = w.cell? ⟨g, j, none⟩ := fun w o j v hj => World.cell?_setCell_other _ _ _ _ (fun e => hj (by injection e with e1 e2; exact e2.symm))
  have same : ∀ (w : World) (o : Nat) (v u : Value), w.cell? ⟨g, o, none⟩ = some u → (w.setCell ⟨g, o, none⟩ v).cell? ⟨g, o, none⟩ = some v := fun w o v u hu => World.cell?_setCell_same' w ⟨g, o, none⟩ v (by rw [hu]; rfl)
  refine ⟨_, rfl, ⟨?_, ?_, ?_, ?_, ?_, ?_, ?_, ?_, ?_, ?_, ?_, ?_⟩, by simp, fun k hk => by rw [Below.heap_setCell _ _ _ _ hk], fun pb a hb hg => (hb.setCell (.inr hg) _)⟩
  · rw [other _ _ _ _ (by omega)]; exact h.c0
  · rw [other _ _ _ _ (by omega)]; exact h.c1
  · rw [other _ _ _ _ (by omega)]; exact h.c2
  · exact same _ _ _ _ h.c3
  · rw [other _ _ _ _ (by omega)]; exact h.c4
  · rw [other _ _ _ _ (by omega)]; exact h.c5
  · simp only [World.frozen?_setCell]; exact h.f0
  · simp only [World.frozen?_setCell]; exact h.f1
  · simp only [World.frozen?_setCell]; exact h.f2
  · simp only [World.frozen?_setCell]; exact h.f3
  · simp only [World.frozen?_setCell]; exact h.f4
  · simp only [World.frozen?_setCell]; exact h.f5
theorem Six.set5 {w : World} {g : Nat} {u0 u1 u2 u3 u4 u5 : Value} (h : Six w g u0 u1 u2 u3 u4 u5) (v5 : Value) :
    ∃ W, (w.setCell ⟨g, 5, none⟩ v5) = W ∧ Six W g u0 u1 u2 u3 u4 v5 ∧ W.heap.size = w.heap.size ∧ (∀ k, k ≠ g → W.heap[k]? = w.heap[k]?) ∧ (∀ pb a, Bes pb a w → a.heap.size ≤ g → Bes pb a W) := by
  have other : ∀ (w : World) (o j : Nat) (v : Value), j ≠ o → (w.setCell ⟨g, o, none⟩ v).cell? ⟨g, j, none⟩ = w.cell? ⟨g, j, none⟩ := fun w o j v hj => World.cell?_setCell_other _ _ _ _ (fun e => hj (by injection e with e1 e2; exact e2.symm))
  have same : ∀ (w : World) (o : Nat) (v u : Value), w.cell? ⟨g, o, none⟩ = some u → (w.setCell ⟨g, o, none⟩ v).cell? ⟨g, o, none⟩ = some v := fun w o v u hu => World.cell?_setCell_same' w ⟨g, o, none⟩ v (by rw [hu]; rfl)
  refine ⟨_, rfl, ⟨?_, ?_, ?_, ?_, ?_, ?_, ?_, ?_, ?_, ?_, ?_, ?_⟩, by simp, fun k hk => by rw [Below.heap_setCell _ _ _ _ hk], fun pb a hb hg => (hb.setCell (.inr hg) _)⟩
  · rw [other _ _ _ _ (by omega)]; exact h.c0
  · rw [other _ _ _ _ (by omega)]; exact h.c1
  · rw [other _ _ _ _ (by omega)]; exact h.c2
  · rw [other _ _ _ _ (by omega)]; exact h.c3
  · rw [other _ _ _ _ (by omega)]; exact h.c4
  · exact same _ _ _ _ h.c5
  · simp only [World.frozen?_setCell]; exact h.f0
  · simp only [World.frozen?_setCell]; exact h.f1
  · simp only [World.frozen?_setCell]; exact h.f2
  · simp only [World.frozen?_setCell]; exact h.f3
  · simp only [World.frozen?_setCell]; exact h.f4
  · simp only [World.frozen?_setCell]; exact h.f5
theorem Six.set05 {w : World} {g : Nat} {u0 u1 u2 u3 u4 u5 : Value} (h : Six w g u0 u1 u2 u3 u4 u5) (v0 v5 : Value) :
    ∃ W, ((w.setCell ⟨g, 0, none⟩ v0).setCell ⟨g, 5, none⟩ v5) = W ∧ Six W g v0 u1 u2 u3 u4 v5 ∧ W.heap.size = w.heap.size ∧ (∀ k, k ≠ g → W.heap[k]? = w.heap[k]?) ∧ (∀ pb a, Bes pb a w → a.heap.size ≤ g → Bes pb a W) := by
  have other : ∀ (w : World) (o j : Nat) (v : Value), j ≠ o → (w.setCell ⟨g, o, none⟩ v).cell? ⟨g, j, none⟩ = w.cell? ⟨g, j, none⟩ := fun w o j v hj => World.cell?_setCell_other _ _ _ _ (fun e => hj (by injection e with e1 e2; exact e2.symm))
  have same : ∀ (w : World) (o : Nat) (v u : Value), w.cell? ⟨g, o, none⟩ = some u → (w.setCell ⟨g, o, none⟩ v).cell? ⟨g, o, none⟩ = some v := fun w o v u hu => World.cell?_setCell_same' w ⟨g, o, none⟩ v (by rw [hu]; rfl)
  refine ⟨_, rfl, ⟨?_, ?_, ?_, ?_, ?_, ?_, ?_, ?_, ?_, ?_, ?_, ?_⟩, by simp, fun k hk => by rw [Below.heap_setCell _ _ _ _ hk, Below.heap_setCell _ _ _ _ hk], fun pb a hb hg => ((hb.setCell (.inr hg) _).setCell (.inr hg) _)⟩
  · rw [other _ _ _ _ (by omega)]; exact same _ _ _ _ h.c0
  · rw [other _ _ _ _ (by omega)]; rw [other _ _ _ _ (by omega)]; exact h.c1
  · rw [other _ _ _ _ (by omega)]; rw [other _ _ _ _ (by omega)]; exact h.c2
  · rw [other _ _ _ _ (by omega)]; rw [other _ _ _ _ (by omega)]; exact h.c3
  · rw [other _ _ _ _ (by omega)]; rw [other _ _ _ _ (by omega)]; exact h.c4
  · exact same _ _ _ _ ((other _ _ _ _ (by omega)).trans h.c5)
  · simp only [World.frozen?_setCell]; exact h.f0
  · simp only [World.frozen?_setCell]; exact h.f1
  · simp only [World.frozen?_setCell]; exact h.f2
  · simp only [World.frozen?_setCell]; exact h.f3
  · simp only [World.frozen?_setCell]; exact h.f4
  · simp only [World.frozen?_setCell]; exact h.f5
end Go.Em6
namespace Go.Proofs.YtgojjknbingfpaaDoor
open Go.RowKit Go.Em5 Go.Em6
set_option linter.unusedSimpArgs false

set_option maxRecDepth 100000 in
set_option maxHeartbeats 4000000 in
theorem qparens_any (d : Nat) (E : List Em4.Tok → R) (hE : DoesP 55 d E) (w : World) (pb tb : Nat) (s : St) (h : IsPs w pb tb d s) (q : Nat) (hq : q ≤ 140737488351232) :
    Calls Tryd.prog 94 #[PP pb, .agg #[.string ⟨#[117, 110, 105, 116]⟩, .string ⟨#[]⟩, .string ⟨#[]⟩, .int .i64 0, .int .i64 q, .slice none 0 0]] w (PostP (roundS E q) pb tb d s w) := by
  have HH : Hid (IsPs w pb tb d s) := h
  have HE : Hid (DoesP 55 d E) := hE
  obtain ⟨hlp, hlt, hne, -⟩ := h.lt
  clear h hE
  have z5 := (Six.made w (.string ⟨#[117, 110, 105, 116]⟩) (.string ⟨#[]⟩) (.string ⟨#[]⟩) (.int .i64 0) (.int .i64 q) (.slice none 0 0) 24).alloc (.cells #[.string ⟨#[]⟩, .string ⟨#[]⟩, .string ⟨#[]⟩, .int .i64 0, .int .i64 0, .slice none 0 0] 24)
  have z4 := Six.made (w.alloc (.cells #[.string ⟨#[117, 110, 105, 116]⟩, .string ⟨#[]⟩, .string ⟨#[]⟩, .int .i64 0, .int .i64 q, .slice none 0 0] 24)) (.string ⟨#[]⟩) (.string ⟨#[]⟩) (.string ⟨#[]⟩) (.int .i64 0) (.int .i64 0) (.slice none 0 0) 24
  simp only [World.size_alloc] at z4
  have h0 := (HH.out.alloc (.cells #[.string ⟨#[117, 110, 105, 116]⟩, .string ⟨#[]⟩, .string ⟨#[]⟩, .int .i64 0, .int .i64 q, .slice none 0 0] 24)).alloc (.cells #[.string ⟨#[]⟩, .string ⟨#[]⟩, .string ⟨#[]⟩, .int .i64 0, .int .i64 0, .slice none 0 0] 24)
  have bs0 := ((Bes.refl pb w).alloc (.cells #[.string ⟨#[117, 110, 105, 116]⟩, .string ⟨#[]⟩, .string ⟨#[]⟩, .int .i64 0, .int .i64 q, .slice none 0 0] 24)).alloc (.cells #[.string ⟨#[]⟩, .string ⟨#[]⟩, .string ⟨#[]⟩, .int .i64 0, .int .i64 0, .slice none 0 0] 24)
  go_enter Tryd.func94, Tryd.ntmps94
  go_wp2_with fail
  refine (qskip_any pb tb d s [41] _ h0 (by decide) (by decide)).mono ?_
  rintro e w1 ⟨rfl, h1, b1⟩
  have p4 := z4.bes b1 (by omega)
  have p5 := z5.bes b1 (by omega)
  have bs1 := bs0.trans b1
  have g4 := p4.lt
  clear z4 z5 h0 bs0 b1
  obtain ⟨k1, hk1⟩ : ∃ k, k = isWS [41] s := ⟨_, rfl⟩
  rw [← hk1]
  cases k1 with
  | true =>
    obtain ⟨t', r', rfl, -⟩ := isWS_ok hk1.symm
    rw [eatS_t hk1.symm] at h1
    have HQ : Hid (isWS [41] (.ok (t' :: r')) = true) := hk1.symm
    clear hk1
    obtain ⟨c0, c1, c2, c3, c4, c5, -⟩ := id p5
    obtain ⟨a0, a1, a2, a3, a4, a5, f0, f1, f2, f3, f4, f5⟩ := id p4
    obtain ⟨W, hW, sx, hz, hk, hbb⟩ := p4.set (.string ⟨#[117, 110, 105, 116]⟩) (.string ⟨#[]⟩) (.string ⟨#[]⟩) (.int .i64 0) (.int .i64 q) (.slice none 0 0)
    go_wp2_with fail
    obtain ⟨c0, c1, c2, c3, c4, c5, -⟩ := id sx
    refine bodyPost_ret (v := .agg #[.string ⟨#[117, 110, 105, 116]⟩, .string ⟨#[]⟩, .string ⟨#[]⟩, .int .i64 0, .int .i64 q, .slice none 0 0]) (by simp [results, Tryd.results94, go_sem, c0, c1, c2, c3, c4, c5]) rfl ?_
    refine ⟨_, nd [117, 110, 105, 116] q [], .ok r', rfl, isNdP_leaf ⟨by decide, by decide⟩ txt_nil txt_nil i64_zero (i64_pos hq), h1.set hz hk (by omega) (by omega), hbb pb w bs1 (by omega), ?_⟩
    show Fits (roundS E q (t' :: r')) _ _
    unfold roundS
    rw [if_pos (show isW [41] (t' :: r') = true from HQ.out)]
    exact ⟨rfl, rfl⟩
  | false =>
    rw [eatS_f hk1.symm] at h1
    have HQ : Hid (isWS [41] s = false) := hk1.symm
    clear hk1
    go_wp2_with fail
    refine (HE.out s _ pb tb h1).mono ?_
    rintro e w2 ⟨v2, n2, s2, rfl, d2, h2, b2, F2⟩
    obtain ⟨x0, x1, x2, xm, xp, xa, xl, xc, rfl⟩ := ndb_shape d2
    have p42 := p4.bes b2 (by omega)
    have p52 := p5.bes b2 (by omega)
    have bs2 := bs1.trans b2
    have g2 := p42.lt
    have z6 := Six.made w2 (.string x0) (.string x1) (.string x2) (.int .i64 xm) (.int .i64 xp) (.slice xa xl xc) 24
    have d2a : NdB (w.heap.size + 2) (w2.alloc (.cells #[.string x0, .string x1, .string x2, .int .i64 xm, .int .i64 xp, .slice xa xl xc] 24)) n2 _ := ndb_below (ndb_mono d2 (by omega)) ((Below.refl _ _).alloc (Nat.le_refl _) _)
    have h2a := h2.alloc (.cells #[.string x0, .string x1, .string x2, .int .i64 xm, .int .i64 xp, .slice xa xl xc] 24)
    have p42a := p42.alloc (.cells #[.string x0, .string x1, .string x2, .int .i64 xm, .int .i64 xp, .slice xa xl xc] 24)
    have p52a := p52.alloc (.cells #[.string x0, .string x1, .string x2, .int .i64 xm, .int .i64 xp, .slice xa xl xc] 24)
    have bs2a := bs2.alloc (.cells #[.string x0, .string x1, .string x2, .int .i64 xm, .int .i64 xp, .slice xa xl xc] 24)
    have HF2 : Hid (Fits (thn s E) n2 s2) := F2
    clear b2 F2 p4 p5 bs1 h1 h2 p42 p52 bs2 d2
    go_wp2_with fail
    refine (qskip_any pb tb d s2 [44] _ h2a (by decide) (by decide)).mono ?_
    rintro e w3 ⟨rfl, h3, b3⟩
    have q43 := p42a.bes b3 (by omega)
    have q53 := p52a.bes b3 (by omega)
    have q63 := z6.bes b3 (by omega)
    have bs3 := bs2a.trans b3
    have d3 := ndb_bes d2a (by omega) b3
    have g3 := q63.lt
    clear h2a p42a p52a z6 bs2a d2a b3
    obtain ⟨k3, hk3⟩ : ∃ k, k = isWS [44] s2 := ⟨_, rfl⟩
    rw [← hk3]
    cases k3 with
    | false =>
      rw [eatS_f hk3.symm] at h3
      have HFF : Hid (Fits (thn s (roundS E q)) n2 (needS [41] s2)) := by
        refine fits_f HQ.out (fits_thn HF2.out (fits_f hk3.symm ?_))
        rw [thn_need]
        exact fits_ok
      clear hk3
      obtain ⟨c0, c1, c2, c3, c4, c5, -⟩ := id q63
      obtain ⟨a0, a1, a2, a3, a4, a5, f0, f1, f2, f3, f4, f5⟩ := id q53
      obtain ⟨W, hW, sx, hz, hk, hbb⟩ := q53.set (.string x0) (.string x1) (.string x2) (.int .i64 xm) (.int .i64 xp) (.slice xa xl xc)
      have hS := h3.set hz hk (by omega) (by omega)
      have q4S := q43.far hk (by omega)
      have bsS := hbb pb w bs3 (by omega)
      have dS := ndb_set d3 (by omega) hz hk
      go_wp2_with fail
      refine (qmust_any pb tb d s2 [41] _ hS (by decide) (by decide)).mono ?_
      rintro e w9 ⟨rfl, h9, b9⟩
      have u4 := q4S.bes b9 (by omega)
      have u5 := sx.bes b9 (by omega)
      have bs9 := bsS.trans b9
      have e9 := ndb_bes dS (by omega) b9
      clear hbb hk hz hW hS q4S sx bsS dS b9 c0 c1 c2 c3 c4 c5 a0 a1 a2 a3 a4 a5 f0 f1 f2 f3 f4 f5 q43 q53 q63 h3 bs3 d3
      obtain ⟨c0, c1, c2, c3, c4, c5, -⟩ := id u5
      obtain ⟨a0, a1, a2, a3, a4, a5, f0, f1, f2, f3, f4, f5⟩ := id u4
      obtain ⟨W, hW, sx, hz, hk, hbb⟩ := u4.set (.string x0) (.string x1) (.string x2) (.int .i64 xm) (.int .i64 xp) (.slice xa xl xc)
      go_wp2_with fail
      obtain ⟨c0, c1, c2, c3, c4, c5, -⟩ := id sx
      refine bodyPost_ret (v := .agg #[.string x0, .string x1, .string x2, .int .i64 xm, .int .i64 xp, .slice xa xl xc]) (by simp [results, Tryd.results94, go_sem, c0, c1, c2, c3, c4, c5]) rfl ?_
      exact ⟨_, n2, needS [41] s2, rfl, ndb_mono (ndb_set e9 (by omega) hz hk) (by omega), h9.set hz hk (by omega) (by omega), hbb pb w bs9 (by omega), HFF.out⟩
    | true =>
      obtain ⟨t', r', rfl, -⟩ := isWS_ok hk3.symm
      rw [eatS_t hk3.symm] at h3
      have HQ3 : Hid (isWS [44] (.ok (t' :: r')) = true) := hk3.symm
      clear hk3
      have r6d := q63.drew
      obtain ⟨k0, k1, k2, k3, k4, k5, -⟩ := id r6d
      go_wp2_with fail
      go_region_with
        (first | (go_at_call 55; refine (HE.out (.ok r') _ pb tb h3.drew).mono ?_; rintro e w8 ⟨v8, n8, s8, rfl, d8, h8, b8, F8⟩; obtain ⟨y0, y1, y2, ym, yp, ya, yl, yc, rfl⟩ := ndb_shape d8; have t4 := q43.drew.bes b8 (by omega); have t5 := q53.drew.bes b8 (by omega); have t6 := r6d.bes b8 (by omega); obtain ⟨l0, l1, l2, l3, l4, l5, -⟩ := id t6; obtain ⟨a0, a1, a2, a3, a4, a5, fz0, fz1, fz2, fz3, fz4, fz5⟩ := id t5; have bs8 := bs3.drew.trans b8; have e8 : NdB (w.heap.size + 2) w8 n2 _ := ndb_bes (ndb_below d3 (Below.refl _ _).drew) (by omega) b8; have e8' : NdB (w.heap.size + 2) w8 n8 _ := ndb_mono d8 (by simp; omega); have HF8 : Hid (Fits (thn (.ok r') E) n8 s8) := F8; have hgl8 := t6.lt; have hgl7 := t5.lt; have hgl6 := t4.lt; obtain ⟨W, hW, sx, hz, hk, hbb⟩ := t5.set05 (.string ⟨#[112, 97, 105, 114]⟩) (.slice (some ⟨w8.heap.size, 0, none⟩) 2 2); clear F8 d8 b8 r6d))
      all_goals
        have hS := (h8.set hz hk (by omega) (by omega)).alloc (.cells #[.string x0, .string x1, .string x2, .int .i64 xm, .int .i64 xp, .slice xa xl xc, .string y0, .string y1, .string y2, .int .i64 ym, .int .i64 yp, .slice ya yl yc] 24)
        have q4S := (t4.far hk (by omega)).alloc (.cells #[.string x0, .string x1, .string x2, .int .i64 xm, .int .i64 xp, .slice xa xl xc, .string y0, .string y1, .string y2, .int .i64 ym, .int .i64 yp, .slice ya yl yc] 24)
        have q5S := sx.alloc (.cells #[.string x0, .string x1, .string x2, .int .i64 xm, .int .i64 xp, .slice xa xl xc, .string y0, .string y1, .string y2, .int .i64 ym, .int .i64 yp, .slice ya yl yc] 24)
        have bsS := (hbb pb w bs8 (by omega)).alloc (.cells #[.string x0, .string x1, .string x2, .int .i64 xm, .int .i64 xp, .slice xa xl xc, .string y0, .string y1, .string y2, .int .i64 ym, .int .i64 yp, .slice ya yl yc] 24)
        have dS : NdB (w.heap.size + 2) (W.alloc (.cells #[.string x0, .string x1, .string x2, .int .i64 xm, .int .i64 xp, .slice xa xl xc, .string y0, .string y1, .string y2, .int .i64 ym, .int .i64 yp, .slice ya yl yc] 24)) (nd [112, 97, 105, 114] q [n2, n8]) _ := ndp_two (op := [112, 97, 105, 114]) (nm := []) (ar := []) (ndb_set e8 (by omega) hz hk) (ndb_set e8' (by omega) hz hk) (Below.refl _ _) hz.symm (by show _ ≤ _; omega) ⟨by decide, by decide⟩ txt_nil txt_nil hq
        have HFF : Hid (Fits (thn s (roundS E q)) (nd [112, 97, 105, 114] q [n2, n8]) (needS [41] s8)) := by
          refine fits_f HQ.out (fits_thn HF2.out (fits_t HQ3.out (fun t2 r2 e2 => ?_)))
          injection e2 with e2
          injection e2 with e3 e4
          subst e3
          subst e4
          refine fits_bnd HF8.out ?_
          rw [thn_need]
          exact fits_ok
        go_wp2_with fail
        refine (qmust_any pb tb d s8 [41] _ hS (by decide) (by decide)).mono ?_
        rintro e w9 ⟨rfl, h9, b9⟩
        have u4 := q4S.bes b9 (by omega)
        have u5 := q5S.bes b9 (by omega)
        have bs9 := bsS.trans b9
        have e9 := ndb_bes dS (by omega) b9
        clear hbb hk hz hW hS q4S q5S sx bsS dS b9 a0 a1 a2 a3 a4 a5 q43 q53 q63 h3 bs3 d3 t4 t5 t6 h8 bs8 e8 e8' l0 l1 l2 l3 l4 l5 k0 k1 k2 k3 k4 k5 fz0 fz1 fz2 fz3 fz4 fz5
        obtain ⟨c0, c1, c2, c3, c4, c5, -⟩ := id u5
        obtain ⟨a0, a1, a2, a3, a4, a5, f0, f1, f2, f3, f4, f5⟩ := id u4
        obtain ⟨W, hW, sx, hz, hk, hbb⟩ := u4.set (.string ⟨#[112, 97, 105, 114]⟩) (.string ⟨#[]⟩) (.string ⟨#[]⟩) (.int .i64 0) (.int .i64 q) (.slice (some ⟨w8.heap.size, 0, none⟩) 2 2)
        go_wp2_with fail
        obtain ⟨c0, c1, c2, c3, c4, c5, -⟩ := id sx
        refine bodyPost_ret (v := .agg #[.string ⟨#[112, 97, 105, 114]⟩, .string ⟨#[]⟩, .string ⟨#[]⟩, .int .i64 0, .int .i64 q, .slice (some ⟨w8.heap.size, 0, none⟩) 2 2]) (by simp [results, Tryd.results94, go_sem, c0, c1, c2, c3, c4, c5]) rfl ?_
        exact ⟨_, nd [112, 97, 105, 114] q [n2, n8], needS [41] s8, rfl, ndb_mono (ndb_set e9 (by omega) hz hk) (by omega), h9.set hz hk (by omega) (by omega), hbb pb w bs9 (by omega), HFF.out⟩
end Go.Proofs.YtgojjknbingfpaaDoor

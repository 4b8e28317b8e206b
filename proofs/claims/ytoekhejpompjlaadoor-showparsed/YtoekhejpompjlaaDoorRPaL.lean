/- What 'let' of the document's own parser answers. -/
import Derived.Test.YtoekhejpompjlaaDoorRPaT
namespace Go.Proofs.YtoekhejpompjlaaDoor
open Go.RowKit Go.Em5 Go.Em6
set_option linter.unusedSimpArgs false

theorem name_txt {w : World} {pb tb : Nat} {s : St} (h : IsSt w pb tb s) : Txt (nameS s).1 := by
  cases s with
  | error e => exact txt_nil
  | ok L => cases L with
    | nil => exact txt_nil
    | cons t r =>
      simp only [nameS]
      split
      · exact (h.tok.1 t (by simp)).1
      · exact txt_nil
theorem thn_name {β : Type} (s : St) (G : List Int → List Em4.Tok → Except Err β) : thn s (fun L => bnd (name L) G) = thn (nameS s).2 (G (nameS s).1) := by
  cases s with
  | error e => rfl
  | ok L => cases L with
    | nil => rfl
    | cons t r =>
      show bnd (name (t :: r)) G = _
      simp only [name, nameS]
      split <;> rfl
/-- A node's names may be given behind. -/
theorem ndp_named {P : Nat → Prop} {w : World} {op x y : List Int} {p : Int} {l : List Nd} {a : Option Addr} {k c : Nat} (h : IsNdP P w (.mk op [] [] 0 p l) (.agg #[.string (Em.str op), .string (Em.str []), .string (Em.str []), .int .i64 0, .int .i64 p, .slice a k c])) (hx : Txt x) (hy : Txt y) :
    IsNdP P w (.mk op x y 0 p l) (.agg #[.string (Em.str op), .string (Em.str x), .string (Em.str y), .int .i64 0, .int .i64 p, .slice a k c]) := by
  unfold IsNdP at h ⊢
  obtain ⟨b, cap, h1, h2, h3, h4, h5, h6, h7, h8, h9⟩ := h
  simp only [Value.agg.injEq, Array.mk.injEq, List.cons.injEq, Value.slice.injEq, true_and, and_true] at h1
  obtain ⟨rfl, rfl, rfl⟩ := h1
  exact ⟨_, _, rfl, h2, hx, hy, h5, h6, h7, h8, h9⟩
/-- Two cells of six are turned. -/
theorem Six.set2 {w : World} {g : Nat} {u0 u1 u2 u3 u4 u5 : Value} (h : Six w g u0 u1 u2 u3 u4 u5) (v1 v2 : Value) :
    ∃ W, (w.setCell ⟨g, 1, none⟩ v1).setCell ⟨g, 2, none⟩ v2 = W ∧ Six W g u0 v1 v2 u3 u4 u5 ∧ W.heap.size = w.heap.size ∧ (∀ k, k ≠ g → W.heap[k]? = w.heap[k]?) ∧ (∀ pb a, Bes pb a w → a.heap.size ≤ g → Bes pb a W) := by
  have o : ∀ (w : World) (i j : Nat) (v : Value), i ≠ j → (w.setCell ⟨g, i, none⟩ v).cell? ⟨g, j, none⟩ = w.cell? ⟨g, j, none⟩ := fun w i j v hij => World.cell?_setCell_other _ _ _ _ (fun e => hij (by injection e))
  refine ⟨_, rfl, ⟨?_, ?_, ?_, ?_, ?_, ?_, ?_, ?_, ?_, ?_, ?_, ?_⟩, by simp, fun k hk => by rw [Below.heap_setCell _ _ _ _ hk, Below.heap_setCell _ _ _ _ hk], fun pb a hb hg => (hb.setCell (.inr hg) _).setCell (.inr hg) _⟩
  · rw [o _ _ _ _ (by omega), o _ _ _ _ (by omega)]; exact h.c0
  · rw [o _ _ _ _ (by omega)]; exact World.cell?_setCell_same _ _ _ h.c1
  · exact World.cell?_setCell_same (u := u2) _ _ _ (by rw [o _ _ _ _ (by omega)]; exact h.c2)
  · rw [o _ _ _ _ (by omega), o _ _ _ _ (by omega)]; exact h.c3
  · rw [o _ _ _ _ (by omega), o _ _ _ _ (by omega)]; exact h.c4
  · rw [o _ _ _ _ (by omega), o _ _ _ _ (by omega)]; exact h.c5
  · simpa using h.f0
  · simpa using h.f1
  · simpa using h.f2
  · simpa using h.f3
  · simpa using h.f4
  · simpa using h.f5
theorem Six.set1 {w : World} {g : Nat} {u0 u1 u2 u3 u4 u5 : Value} (h : Six w g u0 u1 u2 u3 u4 u5) (v1 : Value) :
    ∃ W, w.setCell ⟨g, 1, none⟩ v1 = W ∧ Six W g u0 v1 u2 u3 u4 u5 ∧ W.heap.size = w.heap.size ∧ (∀ k, k ≠ g → W.heap[k]? = w.heap[k]?) ∧ (∀ pb a, Bes pb a w → a.heap.size ≤ g → Bes pb a W) := by
  have o : ∀ (w : World) (i j : Nat) (v : Value), i ≠ j → (w.setCell ⟨g, i, none⟩ v).cell? ⟨g, j, none⟩ = w.cell? ⟨g, j, none⟩ := fun w i j v hij => World.cell?_setCell_other _ _ _ _ (fun e => hij (by injection e))
  refine ⟨_, rfl, ⟨?_, ?_, ?_, ?_, ?_, ?_, ?_, ?_, ?_, ?_, ?_, ?_⟩, by simp, fun k hk => Below.heap_setCell _ _ _ _ hk, fun pb a hb hg => hb.setCell (.inr hg) _⟩
  · rw [o _ _ _ _ (by omega)]; exact h.c0
  · exact World.cell?_setCell_same _ _ _ h.c1
  · rw [o _ _ _ _ (by omega)]; exact h.c2
  · rw [o _ _ _ _ (by omega)]; exact h.c3
  · rw [o _ _ _ _ (by omega)]; exact h.c4
  · rw [o _ _ _ _ (by omega)]; exact h.c5
  · simpa using h.f0
  · simpa using h.f1
  · simpa using h.f2
  · simpa using h.f3
  · simpa using h.f4
  · simpa using h.f5

/-- Where the node's own variable is made: ahead of the call. -/
theorem order2 {w w8 : World} {o : Obj} {n : Nd} {v : Value} (h : NdB (w.alloc o).drew.heap.size w8 n v) : NdB (w.heap.size + 1) w8 n v := by simpa using h
theorem order2b {pb : Nat} {w w8 : World} {v0 v1 v2 v3 v4 v5 : Value} {ty : TypeId} (h : Bes pb (w.alloc (.cells #[v0, v1, v2, v3, v4, v5] ty)).drew w8) (hp : pb < w.heap.size) : Six w8 w.heap.size v0 v1 v2 v3 v4 v5 :=
  (Six.made w v0 v1 v2 v3 v4 v5 ty).drew.bes h (by omega)
theorem order2c {pb B : Nat} {w w8 : World} {o : Obj} {n : Nd} {v : Value} (d : NdB B w n v) (h : Bes pb (w.alloc o).drew w8) (hp : pb < B) : NdQ B w.heap.size w8 n v :=
  ndp_bes (ndp_below (ndp_below (ndq_of d (Nat.le_refl _)) ((Below.refl _ _).alloc (Nat.le_refl _) o)) (Below.refl _ _).drew) (by intro h; have := h.1; omega) h
theorem below1 {w w9 : World} {o : Obj} (h : Below (w.alloc o).heap.size (w.alloc o) w9) : Below w.heap.size w w9 := ((Below.refl _ _).alloc (Nat.le_refl _) o).trans (h.mono (by simp))
theorem below2 {w w9 : World} {o o' : Obj} (h : Below ((w.alloc o).alloc o').heap.size ((w.alloc o).alloc o') w9) : Below w.heap.size w w9 := below1 (below1 h)
theorem sixA {w w9 : World} {v0 v1 v2 v3 v4 v5 : Value} {ty : TypeId} {o : Obj} (h : Below ((w.alloc (.cells #[v0, v1, v2, v3, v4, v5] ty)).alloc o).heap.size ((w.alloc (.cells #[v0, v1, v2, v3, v4, v5] ty)).alloc o) w9) : Six w9 w.heap.size v0 v1 v2 v3 v4 v5 :=
  ((Six.made w v0 v1 v2 v3 v4 v5 ty).alloc o).below h
theorem sixB {w w9 : World} {v0 v1 v2 v3 v4 v5 : Value} {ty : TypeId} {o : Obj} (h : Below ((w.alloc o).alloc (.cells #[v0, v1, v2, v3, v4, v5] ty)).heap.size ((w.alloc o).alloc (.cells #[v0, v1, v2, v3, v4, v5] ty)) w9) : Six w9 (w.heap.size + 1) v0 v1 v2 v3 v4 v5 := by
  have := (Six.made (w.alloc o) v0 v1 v2 v3 v4 v5 ty).below h
  simpa using this
theorem below3 {w w9 : World} {o o' : Obj} (h : Below ((w.alloc o).alloc o').heap.size ((w.alloc o).alloc o') w9) : Below (w.heap.size + 1) (w.alloc o) w9 := by
  have := below1 h
  simpa using this
theorem below4 {w w9 : World} {o o' : Obj} (h : Below ((w.alloc o).alloc o').heap.size ((w.alloc o).alloc o') w9) : Below ((w.alloc o).heap.size + 1) ((w.alloc o).alloc o') w9 := h.mono (by simp)
theorem below5 {w w9 : World} {o : Obj} (h : Below (w.alloc o).heap.size (w.alloc o) w9) : Below (w.heap.size + 1) (w.alloc o) w9 := h.mono (by simp)
/-- What holds when the node lies in its own variable: the block g. -/
structure Leaf (pb tb : Nat) (w : World) (s : St) (g : Nat) (W : World) (op : List Int) (p : Nat) (l : List Nd) (a : Option Addr) (k c : Nat) : Prop where
  sx : Six W g (.string (Em.str op)) (.string (Em.str [])) (.string (Em.str [])) (.int .i64 0) (.int .i64 p) (.slice a k c)
  q4 : Six W w.heap.size (.string ⟨#[]⟩) (.string ⟨#[]⟩) (.string ⟨#[]⟩) (.int .i64 0) (.int .i64 0) (.slice none 0 0)
  st : IsSt W pb tb s
  bs : Bes pb w W
  nd : NdQ (w.heap.size + 1) g W (.mk op [] [] 0 p l) (.agg #[.string (Em.str op), .string (Em.str []), .string (Em.str []), .int .i64 0, .int .i64 p, .slice a k c])
  gt : w.heap.size < g
/-- Behind the store. -/
theorem leafOf {pb tb : Nat} {w w9 W : World} {s : St} {g : Nat} {op : List Int} {p : Nat} {l : List Nd} {a : Option Addr} {k c : Nat}
    (sx : Six W g (.string (Em.str op)) (.string (Em.str [])) (.string (Em.str [])) (.int .i64 0) (.int .i64 p) (.slice a k c)) (hz : W.heap.size = w9.heap.size) (hk : ∀ j, j ≠ g → W.heap[j]? = w9.heap[j]?) (hbb : ∀ pb a, Bes pb a w9 → a.heap.size ≤ g → Bes pb a W)
    (u4 : Six w9 w.heap.size (.string ⟨#[]⟩) (.string ⟨#[]⟩) (.string ⟨#[]⟩) (.int .i64 0) (.int .i64 0) (.slice none 0 0)) (h9 : IsSt w9 pb tb s) (bs9 : Bes pb w w9) (e9 : NdQ (w.heap.size + 1) g w9 (.mk op [] [] 0 p l) (.agg #[.string (Em.str op), .string (Em.str []), .string (Em.str []), .int .i64 0, .int .i64 p, .slice a k c]))
    (hg : w.heap.size < g) (hp : pb < w.heap.size) (ht : tb < w.heap.size) : Leaf pb tb w s g W op p l a k c :=
  ⟨sx, u4.far hk (by omega), h9.set hz hk (by omega) (by omega), hbb pb w bs9 (by omega), ndq_set e9 hz hk, hg⟩

set_option maxRecDepth 100000 in
set_option maxHeartbeats 4000000 in
theorem plet_does (d : Nat) (hd : d ≤ 40) (C : List Em4.Tok → R) (hC : Does 22 (d + 1) C) : ∀ (w : World) (pb tb : Nat) (s : St) (p : Nat), IsSt w pb tb s → p ≤ 140737488351232 → Calls Tryd.prog 35 #[PP pb, .int .i64 d, .int .i64 p] w (Post (letS C p) pb tb s w) := by
  intro w pb tb s p h hpos
  have HH : Hid (IsSt w pb tb s) := h
  have HC : Hid (Does 22 (d + 1) C) := hC
  obtain ⟨hlp, hlt, hne⟩ := h.lt
  clear h hC
  go_enter Tryd.func35, Tryd.ntmps35
  go_wp2_with fail
  have z4 := Six.made w (.string ⟨#[]⟩) (.string ⟨#[]⟩) (.string ⟨#[]⟩) (.int .i64 0) (.int .i64 0) (.slice none 0 0) 24
  refine (peat_any pb tb s [114, 101, 99] _ (HH.out.alloc _) (by decide)).mono ?_
  rintro e w1 ⟨rfl, h1, b1⟩
  have q41 := z4.bes b1 (by omega)
  have bs1 : Bes pb w w1 := ((Bes.refl pb w).alloc _).trans b1
  have gl1 := q41.lt
  clear z4 b1
  have HD1 : Hid (((d : Int) + 1) = ((d + 1 : Nat) : Int)) := by rw [Hid]; omega
  have HDW : Hid (IntKind.i64.wrap ((d : Int) + 1) = ((d + 1 : Nat) : Int)) := by rw [Hid, IntKind.wrap_i64]; omega
  obtain ⟨q1, hq1⟩ : ∃ q, q = isWS [114, 101, 99] s := ⟨_, rfl⟩
  rw [← hq1]
  cases q1 with
  | true =>
    obtain ⟨t', r', rfl, -⟩ := isWS_ok hq1.symm
    rw [eatS_t hq1.symm] at h1
    have HQ : Hid (isW [114, 101, 99] (t' :: r') = true) := hq1.symm
    clear hq1
    go_wp2_with fail
    have hx2 := name_txt h1
    refine (pname_any pb tb (.ok r') _ h1).mono ?_
    rintro e w2 ⟨rfl, h2, b2⟩
    obtain ⟨x, hxd⟩ : ∃ x, x = (nameS (.ok r')).1 := ⟨_, rfl⟩
    obtain ⟨s2, hsd⟩ : ∃ x, x = (nameS (.ok r')).2 := ⟨_, rfl⟩
    rw [← hxd] at hx2 ⊢
    rw [← hsd] at h2
    have HNM2 : Hid (nameS (.ok r') = (x, s2)) := by rw [hxd, hsd]; rfl
    clear hxd hsd
    have bs2 := bs1.trans b2
    have q42 := q41.bes b2 (by omega)
    clear h1 bs1 b2 q41
    go_wp2_with fail
    have hx3 := name_txt h2
    refine (pname_any pb tb s2 _ h2).mono ?_
    rintro e w3 ⟨rfl, h3, b3⟩
    obtain ⟨y, hxd⟩ : ∃ x, x = (nameS s2).1 := ⟨_, rfl⟩
    obtain ⟨s3, hsd⟩ : ∃ x, x = (nameS s2).2 := ⟨_, rfl⟩
    rw [← hxd] at hx3 ⊢
    rw [← hsd] at h3
    have HNM3 : Hid (nameS s2 = (y, s3)) := by rw [hxd, hsd]; rfl
    clear hxd hsd
    have bs3 := bs2.trans b3
    have q43 := q42.bes b3 (by omega)
    clear h2 bs2 b3 q42
    go_wp2_with fail
    refine (pneed_any pb tb s3 [61] _ h3 (by decide)).mono ?_
    rintro e w4 ⟨rfl, h4, b4⟩
    have bs4 := bs3.trans b4
    have q44 := q43.bes b4 (by omega)
    clear h3 bs3 b4 q43
    go_wp2_with fail
    rw [HD1.out]
    refine (HC.out _ pb tb (needS [61] s3) h4).mono ?_
    rintro e w5 ⟨v5, n5, s5, rfl, d5, h5, b5, F5⟩
    obtain ⟨x0, x1, x2, xm, xp, xa, xl, xc, rfl⟩ := ndb_shape d5
    have hg4 : w.heap.size < w4.heap.size := q44.lt
    have HF5 : Hid (Fits (thn (needS [61] s3) C) n5 s5) := F5
    have q46 := (q44.bes b5 (by omega)).alloc (.cells #[.string x0, .string x1, .string x2, .int .i64 xm, .int .i64 xp, .slice xa xl xc] 24)
    have q56 := Six.made w5 (.string x0) (.string x1) (.string x2) (.int .i64 xm) (.int .i64 xp) (.slice xa xl xc) 24
    have bs6 := (bs4.trans b5).alloc (.cells #[.string x0, .string x1, .string x2, .int .i64 xm, .int .i64 xp, .slice xa xl xc] 24)
    have h6 := h5.alloc (.cells #[.string x0, .string x1, .string x2, .int .i64 xm, .int .i64 xp, .slice xa xl xc] 24)
    have d6 : NdB (w.heap.size + 1) _ n5 _ := ndb_below (ndb_mono d5 (by omega)) ((Below.refl _ _).alloc (Nat.le_refl _) (.cells #[.string x0, .string x1, .string x2, .int .i64 xm, .int .i64 xp, .slice xa xl xc] 24))
    have hg5 : w.heap.size < w5.heap.size := Nat.lt_of_lt_of_le hg4 b5.size
    clear F5 d5 h5 b5 h4 bs4 q44
    go_wp2_with fail
    refine (pneed_any pb tb s5 [105, 110] _ h6 (by decide)).mono ?_
    rintro e w7 ⟨rfl, h7, b7⟩
    have q47 := q46.bes b7 (by omega)
    have q57 := q56.bes b7 (by omega)
    have bs7 := bs6.trans b7
    have d7 := ndb_bes d6 (by omega) b7
    have hg7 : w5.heap.size < w7.heap.size := q57.lt
    clear h6 q46 q56 bs6 d6 b7
    go_wp2_with fail
    go_region_held (fun w' => w'.cell? ⟨w5.heap.size, 0, none⟩ = some (.string x0) ∧ w'.cell? ⟨w5.heap.size, 1, none⟩ = some (.string x1) ∧ w'.cell? ⟨w5.heap.size, 2, none⟩ = some (.string x2) ∧ w'.cell? ⟨w5.heap.size, 3, none⟩ = some (.int .i64 xm) ∧ w'.cell? ⟨w5.heap.size, 4, none⟩ = some (.int .i64 xp) ∧ w'.cell? ⟨w5.heap.size, 5, none⟩ = some (.slice xa xl xc))
      (with_reducible (first | exact v6.held | exact (u5.alloc _).held | exact u5.held | exact ((t5.alloc _).alloc _).held | exact (t5.alloc _).held | exact t5.held | exact (q57.alloc _).drew.held | exact q57.drew.held))
      (first | (go_at_call 22; rw [HDW.out]; refine (HC.out _ pb tb (needS [105, 110] s5) (by with_reducible (first | exact h7.drew | exact (h7.alloc _).drew))).mono ?_; rintro e w8 ⟨v8, n8, s8, rfl, d8, h8, b8, F8⟩; obtain ⟨y0, y1, y2, ym, yp, ya, yl, yc, rfl⟩ := ndb_shape d8; have bX : Bes pb w7 w8 := (by with_reducible (first | exact ((Bes.refl _ _).drew).trans b8 | exact (((Bes.refl _ _).alloc _).drew).trans b8)); have t4 := q47.bes bX (by omega); have t5 := q57.bes bX (by omega); have bs8 := bs7.trans bX; have e8 : NdB (w.heap.size + 1) w8 n5 _ := ndb_bes d7 (by omega) bX; have e8' : NdB (w.heap.size + 1) w8 n8 _ := ndb_mono d8 (by simp; omega); have HF8 : Hid (Fits (thn (needS [105, 110] s5) C) n8 s8) := F8; have hg8 : w7.heap.size ≤ w8.heap.size := bX.size; (try (have zd8 := (by with_reducible exact order2 d8); have z8 := order2b b8 (by omega); have hz8 := z8.lt; have zn5 := order2c d7 b8 (by omega))); clear F8 d8 b8 bX) | (go_at_call 38; refine (pnode_any _ _ _ _ _ _).mono ?_; rintro e w9 ⟨rfl, hb9⟩; have bY : Below w8.heap.size w8 w9 := (by with_reducible (first | exact below2 hb9 | exact below1 hb9)); have u4 := t4.below bY; have u5 := t5.below bY; have h9 := h8.below bY; have bs9 := bs8.trans (Bes.of bY); (first | (have z9 := (by with_reducible exact z8.below bY); obtain ⟨a0, a1, a2, a3, a4, a5, f0, f1, f2, f3', f4, f5⟩ := id z9; obtain ⟨W, hW, sx, hz, hk, hbb⟩ := z9.set (.string ⟨#[114, 101, 99]⟩) (.string (Em.str [])) (.string (Em.str [])) (.int .i64 0) (.int .i64 p) (.slice (some ⟨w8.heap.size, 0, none⟩) 2 2); have v6 : Six W w5.heap.size _ _ _ _ _ _ := u5.far hk (by omega); have e9 : NdQ (w.heap.size + 1) (w7.heap.size) w9 (nd [114, 101, 99] p [n5, n8]) (.agg #[.string (Em.str [114, 101, 99]), .string (Em.str []), .string (Em.str []), .int .i64 0, .int .i64 p, .slice (some ⟨w8.heap.size, 0, none⟩) 2 2]) := ndp_two (op := [114, 101, 99]) zn5 (ndq_of2 zd8 (by omega) (by omega)) (below5 hb9) rfl ⟨by omega, by omega⟩ ⟨by decide, by decide⟩ txt_nil txt_nil hpos; obtain ⟨gl, hgl⟩ : ∃ gl, gl = w7.heap.size := ⟨_, rfl⟩; have HG : Hid (w7.heap.size = gl) := hgl.symm; have LF : Hid (Leaf pb tb w s8 gl W [114, 101, 99] p [n5, n8] (some ⟨w8.heap.size, 0, none⟩) 2 2) := (by rw [hgl]; exact leafOf sx hz hk hbb u4 h9 bs9 e9 (by omega) hlp hlt); clear hgl hz hk hbb e9 sx z9) | (have z9 := (by with_reducible exact sixA hb9); obtain ⟨a0, a1, a2, a3, a4, a5, f0, f1, f2, f3', f4, f5⟩ := id z9; obtain ⟨W, hW, sx, hz, hk, hbb⟩ := z9.set (.string ⟨#[114, 101, 99]⟩) (.string (Em.str [])) (.string (Em.str [])) (.int .i64 0) (.int .i64 p) (.slice (some ⟨w8.heap.size + 1, 0, none⟩) 2 2); have v6 : Six W w5.heap.size _ _ _ _ _ _ := u5.far hk (by omega); have e9 : NdQ (w.heap.size + 1) (w8.heap.size) w9 (nd [114, 101, 99] p [n5, n8]) (.agg #[.string (Em.str [114, 101, 99]), .string (Em.str []), .string (Em.str []), .int .i64 0, .int .i64 p, .slice (some ⟨w8.heap.size + 1, 0, none⟩) 2 2]) := ndp_two (op := [114, 101, 99]) (ndp_below (ndq_of e8 (Nat.le_refl _)) ((Below.refl _ _).alloc (Nat.le_refl _) _)) (ndp_below (ndq_of e8' (Nat.le_refl _)) ((Below.refl _ _).alloc (Nat.le_refl _) _)) (below4 hb9) (by simp) ⟨by simp; omega, by simp⟩ ⟨by decide, by decide⟩ txt_nil txt_nil hpos; obtain ⟨gl, hgl⟩ : ∃ gl, gl = w8.heap.size := ⟨_, rfl⟩; have HG : Hid (w8.heap.size = gl) := hgl.symm; have LF : Hid (Leaf pb tb w s8 gl W [114, 101, 99] p [n5, n8] (some ⟨w8.heap.size + 1, 0, none⟩) 2 2) := (by rw [hgl]; exact leafOf sx hz hk hbb u4 h9 bs9 e9 (by omega) hlp hlt); clear hgl hz hk hbb e9 sx z9) | (have z9 := (by with_reducible exact sixB hb9); obtain ⟨a0, a1, a2, a3, a4, a5, f0, f1, f2, f3', f4, f5⟩ := id z9; obtain ⟨W, hW, sx, hz, hk, hbb⟩ := z9.set (.string ⟨#[114, 101, 99]⟩) (.string (Em.str [])) (.string (Em.str [])) (.int .i64 0) (.int .i64 p) (.slice (some ⟨w8.heap.size, 0, none⟩) 2 2); have v6 : Six W w5.heap.size _ _ _ _ _ _ := u5.far hk (by omega); have e9 : NdQ (w.heap.size + 1) (w8.heap.size + 1) w9 (nd [114, 101, 99] p [n5, n8]) (.agg #[.string (Em.str [114, 101, 99]), .string (Em.str []), .string (Em.str []), .int .i64 0, .int .i64 p, .slice (some ⟨w8.heap.size, 0, none⟩) 2 2]) := ndp_two (op := [114, 101, 99]) (ndq_of e8 (by omega)) (ndq_of e8' (by omega)) (below3 hb9) rfl ⟨by omega, by omega⟩ ⟨by decide, by decide⟩ txt_nil txt_nil hpos; obtain ⟨gl, hgl⟩ : ∃ gl, gl = w8.heap.size + 1 := ⟨_, rfl⟩; have HG : Hid (w8.heap.size + 1 = gl) := hgl.symm; have LF : Hid (Leaf pb tb w s8 gl W [114, 101, 99] p [n5, n8] (some ⟨w8.heap.size, 0, none⟩) 2 2) := (by rw [hgl]; exact leafOf sx hz hk hbb u4 h9 bs9 e9 (by omega) hlp hlt); clear hgl hz hk hbb e9 sx z9) | (have e9 : NdB (w.heap.size + 1) w9 (nd [114, 101, 99] p [n5, n8]) (.agg #[.string (Em.str [114, 101, 99]), .string (Em.str []), .string (Em.str []), .int .i64 0, .int .i64 p, .slice (some ⟨w8.heap.size, 0, none⟩) 2 2]) := ndp_two (op := [114, 101, 99]) e8 e8' (below5 hb9) rfl (by omega) ⟨by decide, by decide⟩ txt_nil txt_nil hpos))))
    all_goals
      (first | (have LF' : ∃ sa, Leaf pb tb w s8 gl W [114, 101, 99] p [n5, n8] sa 2 2 := ⟨_, LF.out⟩; rw [HG.out]; clear hW LF HG a0 a1 a2 a3 a4 a5 f0 f1 f2 f3' f4 f5 v6) | (obtain ⟨W, hWd⟩ : ∃ W, W = w9.alloc (.cells #[.string ⟨#[114, 101, 99]⟩, .string (Em.str []), .string (Em.str []), .int .i64 0, .int .i64 p, .slice (some ⟨w8.heap.size, 0, none⟩) 2 2] 24) := ⟨_, rfl⟩; rw [← hWd]; obtain ⟨gl, hgl⟩ : ∃ gl, gl = w9.heap.size := ⟨_, rfl⟩; have LF' : ∃ sa, Leaf pb tb w s8 gl W [114, 101, 99] p [n5, n8] sa 2 2 := ⟨_, (by rw [hgl, hWd]; exact ⟨Six.made w9 _ _ _ _ _ _ _, u4.alloc _, h9.alloc _, bs9.alloc _, ndp_below (ndq_of e9 (Nat.le_refl _)) ((Below.refl _ _).alloc (Nat.le_refl _) _), (by have := u5.lt; omega)⟩)⟩; rw [← hgl]; clear hWd hgl e9))
      obtain ⟨sa, LL⟩ := LF'
      have hgt := LL.gt
      obtain ⟨W3, hW3, sx3, hz3, hk3, hb3⟩ := Six.set2 LL.sx (.string (Em.str x)) (.string (Em.str y))
      have q43 := LL.q4.far hk3 (by omega)
      obtain ⟨W4, hW4, sx4, hz4, hk4, hb4⟩ := q43.set (.string (Em.str [114, 101, 99])) (.string (Em.str x)) (.string (Em.str y)) (.int .i64 0) (.int .i64 p) (.slice sa 2 2)
      obtain ⟨i0, i1, i2, i3, i4, i5, j0, j1, j2, j3, j4, j5⟩ := id LL.sx
      obtain ⟨k0, k1, k2, k3, k4, k5, -⟩ := id sx3
      obtain ⟨a0, a1, a2, a3, a4, a5, f0, f1, f2, f3', f4, f5⟩ := id q43
      obtain ⟨c0, c1, c2, c3, c4, c5, -⟩ := id sx4
      have HST : Hid (IsSt W4 pb tb s8) := (LL.st.set hz3 hk3 (by omega) (by omega)).set hz4 hk4 (by omega) (by omega)
      have HBS : Hid (Bes pb w W4) := hb4 pb w (hb3 pb w LL.bs (by omega)) (Nat.le_refl _)
      have HND : Hid (NdB w.heap.size W4 (.mk [114, 101, 99] x y 0 p [n5, n8]) (.agg #[.string (Em.str [114, 101, 99]), .string (Em.str x), .string (Em.str y), .int .i64 0, .int .i64 p, .slice sa 2 2])) := ndb_mono (ndb_set (ndq_ndb (ndq_set (ndp_named LL.nd hx2 hx3) hz3 hk3)) (by omega) hz4 hk4) (by omega)
      clear LL sx3 sx4 q43 hz3 hk3 hb3 hz4 hk4 hb4 h8 h9 u4 u5 t4 t5 bs8 bs9 e8 e8' hb9 bY q47 q57 bs7 d7 h7
      go_wp2_with fail
      refine bodyPost_ret (v := .agg #[.string (Em.str [114, 101, 99]), .string (Em.str x), .string (Em.str y), .int .i64 0, .int .i64 p, .slice sa 2 2]) (by simp [results, Tryd.results35, go_sem, c0, c1, c2, c3, c4, c5]) rfl ?_
      refine ⟨_, .mk [114, 101, 99] x y 0 p [n5, n8], s8, rfl, HND.out, HST.out, HBS.out, ?_⟩
      show Fits (letS C p (t' :: r')) _ _
      unfold letS
      rw [if_pos HQ.out]
      show Fits (thn (.ok r') fun L => bnd (name L) fun x L1 => bnd (name L1) fun y L2 => letT C [114, 101, 99] x y p L2) _ _
      rw [thn_name, HNM2.out]
      simp only
      rw [thn_name, HNM3.out]
      simp only
      unfold letT
      rw [thn_need]
      refine fits_thn HF5.out ?_
      rw [thn_need]
      exact fits_thn HF8.out fits_ok
  | false =>
    rw [eatS_f hq1.symm] at h1
    have HQ : Hid (isWS [114, 101, 99] s = false) := hq1.symm
    clear hq1
    go_wp2_with fail
    have hx2 := name_txt h1
    refine (pname_any pb tb s _ h1).mono ?_
    rintro e w2 ⟨rfl, h2, b2⟩
    obtain ⟨x, hxd⟩ : ∃ x, x = (nameS s).1 := ⟨_, rfl⟩
    obtain ⟨s2, hsd⟩ : ∃ x, x = (nameS s).2 := ⟨_, rfl⟩
    rw [← hxd] at hx2 ⊢
    rw [← hsd] at h2
    have HNM2 : Hid (nameS s = (x, s2)) := by rw [hxd, hsd]; rfl
    clear hxd hsd
    have bs2 := bs1.trans b2
    have q42 := q41.bes b2 (by omega)
    clear h1 bs1 b2 q41
    go_wp2_with fail
    refine (pneed_any pb tb s2 [61] _ h2 (by decide)).mono ?_
    rintro e w4 ⟨rfl, h4, b4⟩
    have bs4 := bs2.trans b4
    have q44 := q42.bes b4 (by omega)
    clear h2 bs2 b4 q42
    go_wp2_with fail
    rw [HD1.out]
    refine (HC.out _ pb tb (needS [61] s2) h4).mono ?_
    rintro e w5 ⟨v5, n5, s5, rfl, d5, h5, b5, F5⟩
    obtain ⟨x0, x1, x2, xm, xp, xa, xl, xc, rfl⟩ := ndb_shape d5
    have hg4 : w.heap.size < w4.heap.size := q44.lt
    have HF5 : Hid (Fits (thn (needS [61] s2) C) n5 s5) := F5
    have q46 := (q44.bes b5 (by omega)).alloc (.cells #[.string x0, .string x1, .string x2, .int .i64 xm, .int .i64 xp, .slice xa xl xc] 24)
    have q56 := Six.made w5 (.string x0) (.string x1) (.string x2) (.int .i64 xm) (.int .i64 xp) (.slice xa xl xc) 24
    have bs6 := (bs4.trans b5).alloc (.cells #[.string x0, .string x1, .string x2, .int .i64 xm, .int .i64 xp, .slice xa xl xc] 24)
    have h6 := h5.alloc (.cells #[.string x0, .string x1, .string x2, .int .i64 xm, .int .i64 xp, .slice xa xl xc] 24)
    have d6 : NdB (w.heap.size + 1) _ n5 _ := ndb_below (ndb_mono d5 (by omega)) ((Below.refl _ _).alloc (Nat.le_refl _) (.cells #[.string x0, .string x1, .string x2, .int .i64 xm, .int .i64 xp, .slice xa xl xc] 24))
    have hg5 : w.heap.size < w5.heap.size := Nat.lt_of_lt_of_le hg4 b5.size
    clear F5 d5 h5 b5 h4 bs4 q44
    go_wp2_with fail
    refine (pneed_any pb tb s5 [105, 110] _ h6 (by decide)).mono ?_
    rintro e w7 ⟨rfl, h7, b7⟩
    have q47 := q46.bes b7 (by omega)
    have q57 := q56.bes b7 (by omega)
    have bs7 := bs6.trans b7
    have d7 := ndb_bes d6 (by omega) b7
    have hg7 : w5.heap.size < w7.heap.size := q57.lt
    clear h6 q46 q56 bs6 d6 b7
    go_wp2_with fail
    go_region_held (fun w' => w'.cell? ⟨w5.heap.size, 0, none⟩ = some (.string x0) ∧ w'.cell? ⟨w5.heap.size, 1, none⟩ = some (.string x1) ∧ w'.cell? ⟨w5.heap.size, 2, none⟩ = some (.string x2) ∧ w'.cell? ⟨w5.heap.size, 3, none⟩ = some (.int .i64 xm) ∧ w'.cell? ⟨w5.heap.size, 4, none⟩ = some (.int .i64 xp) ∧ w'.cell? ⟨w5.heap.size, 5, none⟩ = some (.slice xa xl xc))
      (with_reducible (first | exact v6.held | exact (u5.alloc _).held | exact u5.held | exact ((t5.alloc _).alloc _).held | exact (t5.alloc _).held | exact t5.held | exact (q57.alloc _).drew.held | exact q57.drew.held))
      (first | (go_at_call 22; rw [HDW.out]; refine (HC.out _ pb tb (needS [105, 110] s5) (by with_reducible (first | exact h7.drew | exact (h7.alloc _).drew))).mono ?_; rintro e w8 ⟨v8, n8, s8, rfl, d8, h8, b8, F8⟩; obtain ⟨y0, y1, y2, ym, yp, ya, yl, yc, rfl⟩ := ndb_shape d8; have bX : Bes pb w7 w8 := (by with_reducible (first | exact ((Bes.refl _ _).drew).trans b8 | exact (((Bes.refl _ _).alloc _).drew).trans b8)); have t4 := q47.bes bX (by omega); have t5 := q57.bes bX (by omega); have bs8 := bs7.trans bX; have e8 : NdB (w.heap.size + 1) w8 n5 _ := ndb_bes d7 (by omega) bX; have e8' : NdB (w.heap.size + 1) w8 n8 _ := ndb_mono d8 (by simp; omega); have HF8 : Hid (Fits (thn (needS [105, 110] s5) C) n8 s8) := F8; have hg8 : w7.heap.size ≤ w8.heap.size := bX.size; (try (have zd8 := (by with_reducible exact order2 d8); have z8 := order2b b8 (by omega); have hz8 := z8.lt; have zn5 := order2c d7 b8 (by omega))); clear F8 d8 b8 bX) | (go_at_call 38; refine (pnode_any _ _ _ _ _ _).mono ?_; rintro e w9 ⟨rfl, hb9⟩; have bY : Below w8.heap.size w8 w9 := (by with_reducible (first | exact below2 hb9 | exact below1 hb9)); have u4 := t4.below bY; have u5 := t5.below bY; have h9 := h8.below bY; have bs9 := bs8.trans (Bes.of bY); (first | (have z9 := (by with_reducible exact z8.below bY); obtain ⟨a0, a1, a2, a3, a4, a5, f0, f1, f2, f3', f4, f5⟩ := id z9; obtain ⟨W, hW, sx, hz, hk, hbb⟩ := z9.set (.string ⟨#[108, 101, 116]⟩) (.string (Em.str [])) (.string (Em.str [])) (.int .i64 0) (.int .i64 p) (.slice (some ⟨w8.heap.size, 0, none⟩) 2 2); have v6 : Six W w5.heap.size _ _ _ _ _ _ := u5.far hk (by omega); have e9 : NdQ (w.heap.size + 1) (w7.heap.size) w9 (nd [108, 101, 116] p [n5, n8]) (.agg #[.string (Em.str [108, 101, 116]), .string (Em.str []), .string (Em.str []), .int .i64 0, .int .i64 p, .slice (some ⟨w8.heap.size, 0, none⟩) 2 2]) := ndp_two (op := [108, 101, 116]) zn5 (ndq_of2 zd8 (by omega) (by omega)) (below5 hb9) rfl ⟨by omega, by omega⟩ ⟨by decide, by decide⟩ txt_nil txt_nil hpos; obtain ⟨gl, hgl⟩ : ∃ gl, gl = w7.heap.size := ⟨_, rfl⟩; have HG : Hid (w7.heap.size = gl) := hgl.symm; have LF : Hid (Leaf pb tb w s8 gl W [108, 101, 116] p [n5, n8] (some ⟨w8.heap.size, 0, none⟩) 2 2) := (by rw [hgl]; exact leafOf sx hz hk hbb u4 h9 bs9 e9 (by omega) hlp hlt); clear hgl hz hk hbb e9 sx z9) | (have z9 := (by with_reducible exact sixA hb9); obtain ⟨a0, a1, a2, a3, a4, a5, f0, f1, f2, f3', f4, f5⟩ := id z9; obtain ⟨W, hW, sx, hz, hk, hbb⟩ := z9.set (.string ⟨#[108, 101, 116]⟩) (.string (Em.str [])) (.string (Em.str [])) (.int .i64 0) (.int .i64 p) (.slice (some ⟨w8.heap.size + 1, 0, none⟩) 2 2); have v6 : Six W w5.heap.size _ _ _ _ _ _ := u5.far hk (by omega); have e9 : NdQ (w.heap.size + 1) (w8.heap.size) w9 (nd [108, 101, 116] p [n5, n8]) (.agg #[.string (Em.str [108, 101, 116]), .string (Em.str []), .string (Em.str []), .int .i64 0, .int .i64 p, .slice (some ⟨w8.heap.size + 1, 0, none⟩) 2 2]) := ndp_two (op := [108, 101, 116]) (ndp_below (ndq_of e8 (Nat.le_refl _)) ((Below.refl _ _).alloc (Nat.le_refl _) _)) (ndp_below (ndq_of e8' (Nat.le_refl _)) ((Below.refl _ _).alloc (Nat.le_refl _) _)) (below4 hb9) (by simp) ⟨by simp; omega, by simp⟩ ⟨by decide, by decide⟩ txt_nil txt_nil hpos; obtain ⟨gl, hgl⟩ : ∃ gl, gl = w8.heap.size := ⟨_, rfl⟩; have HG : Hid (w8.heap.size = gl) := hgl.symm; have LF : Hid (Leaf pb tb w s8 gl W [108, 101, 116] p [n5, n8] (some ⟨w8.heap.size + 1, 0, none⟩) 2 2) := (by rw [hgl]; exact leafOf sx hz hk hbb u4 h9 bs9 e9 (by omega) hlp hlt); clear hgl hz hk hbb e9 sx z9) | (have z9 := (by with_reducible exact sixB hb9); obtain ⟨a0, a1, a2, a3, a4, a5, f0, f1, f2, f3', f4, f5⟩ := id z9; obtain ⟨W, hW, sx, hz, hk, hbb⟩ := z9.set (.string ⟨#[108, 101, 116]⟩) (.string (Em.str [])) (.string (Em.str [])) (.int .i64 0) (.int .i64 p) (.slice (some ⟨w8.heap.size, 0, none⟩) 2 2); have v6 : Six W w5.heap.size _ _ _ _ _ _ := u5.far hk (by omega); have e9 : NdQ (w.heap.size + 1) (w8.heap.size + 1) w9 (nd [108, 101, 116] p [n5, n8]) (.agg #[.string (Em.str [108, 101, 116]), .string (Em.str []), .string (Em.str []), .int .i64 0, .int .i64 p, .slice (some ⟨w8.heap.size, 0, none⟩) 2 2]) := ndp_two (op := [108, 101, 116]) (ndq_of e8 (by omega)) (ndq_of e8' (by omega)) (below3 hb9) rfl ⟨by omega, by omega⟩ ⟨by decide, by decide⟩ txt_nil txt_nil hpos; obtain ⟨gl, hgl⟩ : ∃ gl, gl = w8.heap.size + 1 := ⟨_, rfl⟩; have HG : Hid (w8.heap.size + 1 = gl) := hgl.symm; have LF : Hid (Leaf pb tb w s8 gl W [108, 101, 116] p [n5, n8] (some ⟨w8.heap.size, 0, none⟩) 2 2) := (by rw [hgl]; exact leafOf sx hz hk hbb u4 h9 bs9 e9 (by omega) hlp hlt); clear hgl hz hk hbb e9 sx z9) | (have e9 : NdB (w.heap.size + 1) w9 (nd [108, 101, 116] p [n5, n8]) (.agg #[.string (Em.str [108, 101, 116]), .string (Em.str []), .string (Em.str []), .int .i64 0, .int .i64 p, .slice (some ⟨w8.heap.size, 0, none⟩) 2 2]) := ndp_two (op := [108, 101, 116]) e8 e8' (below5 hb9) rfl (by omega) ⟨by decide, by decide⟩ txt_nil txt_nil hpos))))
    all_goals
      (first | (have LF' : ∃ sa, Leaf pb tb w s8 gl W [108, 101, 116] p [n5, n8] sa 2 2 := ⟨_, LF.out⟩; rw [HG.out]; clear hW LF HG a0 a1 a2 a3 a4 a5 f0 f1 f2 f3' f4 f5 v6) | (obtain ⟨W, hWd⟩ : ∃ W, W = w9.alloc (.cells #[.string ⟨#[108, 101, 116]⟩, .string (Em.str []), .string (Em.str []), .int .i64 0, .int .i64 p, .slice (some ⟨w8.heap.size, 0, none⟩) 2 2] 24) := ⟨_, rfl⟩; rw [← hWd]; obtain ⟨gl, hgl⟩ : ∃ gl, gl = w9.heap.size := ⟨_, rfl⟩; have LF' : ∃ sa, Leaf pb tb w s8 gl W [108, 101, 116] p [n5, n8] sa 2 2 := ⟨_, (by rw [hgl, hWd]; exact ⟨Six.made w9 _ _ _ _ _ _ _, u4.alloc _, h9.alloc _, bs9.alloc _, ndp_below (ndq_of e9 (Nat.le_refl _)) ((Below.refl _ _).alloc (Nat.le_refl _) _), (by have := u5.lt; omega)⟩)⟩; rw [← hgl]; clear hWd hgl e9))
      obtain ⟨sa, LL⟩ := LF'
      have hgt := LL.gt
      obtain ⟨W3, hW3, sx3, hz3, hk3, hb3⟩ := Six.set2 LL.sx (.string (Em.str x)) (.string ⟨#[]⟩)
      have q43 := LL.q4.far hk3 (by omega)
      obtain ⟨W4, hW4, sx4, hz4, hk4, hb4⟩ := q43.set (.string (Em.str [108, 101, 116])) (.string (Em.str x)) (.string ⟨#[]⟩) (.int .i64 0) (.int .i64 p) (.slice sa 2 2)
      obtain ⟨i0, i1, i2, i3, i4, i5, j0, j1, j2, j3, j4, j5⟩ := id LL.sx
      obtain ⟨k0, k1, k2, k3, k4, k5, -⟩ := id sx3
      obtain ⟨a0, a1, a2, a3, a4, a5, f0, f1, f2, f3', f4, f5⟩ := id q43
      obtain ⟨c0, c1, c2, c3, c4, c5, -⟩ := id sx4
      have HST : Hid (IsSt W4 pb tb s8) := (LL.st.set hz3 hk3 (by omega) (by omega)).set hz4 hk4 (by omega) (by omega)
      have HBS : Hid (Bes pb w W4) := hb4 pb w (hb3 pb w LL.bs (by omega)) (Nat.le_refl _)
      have HND : Hid (NdB w.heap.size W4 (.mk [108, 101, 116] x [] 0 p [n5, n8]) (.agg #[.string (Em.str [108, 101, 116]), .string (Em.str x), .string ⟨#[]⟩, .int .i64 0, .int .i64 p, .slice sa 2 2])) := ndb_mono (ndb_set (ndq_ndb (ndq_set (ndp_named LL.nd hx2 txt_nil) hz3 hk3)) (by omega) hz4 hk4) (by omega)
      clear LL sx3 sx4 q43 hz3 hk3 hb3 hz4 hk4 hb4 h8 h9 u4 u5 t4 t5 bs8 bs9 e8 e8' hb9 bY q47 q57 bs7 d7 h7
      go_wp2_with fail
      refine bodyPost_ret (v := .agg #[.string (Em.str [108, 101, 116]), .string (Em.str x), .string ⟨#[]⟩, .int .i64 0, .int .i64 p, .slice sa 2 2]) (by simp [results, Tryd.results35, go_sem, c0, c1, c2, c3, c4, c5]) rfl ?_
      refine ⟨_, .mk [108, 101, 116] x [] 0 p [n5, n8], s8, rfl, HND.out, HST.out, HBS.out, ?_⟩
      refine fits_f HQ.out ?_
      rw [thn_name, HNM2.out]
      simp only
      unfold letT
      rw [thn_need]
      refine fits_thn HF5.out ?_
      rw [thn_need]
      exact fits_thn HF8.out fits_ok
end Go.Proofs.YtoekhejpompjlaaDoor

/- What 'app' of the document's own parser answers. -/
import Derived.Test.YtoekhejpompjlaaDoorRPaD
namespace Go.Proofs.YtoekhejpompjlaaDoor
open Go.RowKit Go.Em5 Go.Em6
set_option linter.unusedSimpArgs false

/-- The words of one atom, in memory. -/
def OnesIn (w : World) (g : Nat) : Prop := ∀ (j : Nat) (x : List Int), ones[j]? = some x → w.cell? ⟨g, j, none⟩ = some (.string (Em.str x))
theorem OnesIn.bes {w w' : World} {g pb : Nat} (h : OnesIn w g) (hb : Bes pb w w') (hn : g ≠ pb) (hl : g < w.heap.size) : OnesIn w' g := fun j x hj => by
  rw [hb.cell (p := ⟨g, j, none⟩) hl hn]; exact h j x hj
/-- What holds ahead of each round of the first loop. -/
def AppI (pb tb : Nat) (w : World) (s : St) (g k : Nat) (wr : World) : Prop :=
  Six wr w.heap.size (.string ⟨#[]⟩) (.string ⟨#[]⟩) (.string ⟨#[]⟩) (.int .i64 0) (.int .i64 0) (.slice none 0 0) ∧ IsSt wr pb tb s ∧ Bes pb w wr ∧ OnesIn wr g ∧ (∀ (j : Nat) (x : List Int), j < k → ones[j]? = some x → isWS x s = false) ∧ g < wr.heap.size
theorem ones_txt {x : List Int} {k : Nat} (h : ones[k]? = some x) : (∀ c ∈ x, 0 ≤ c ∧ c ≤ 255) ∧ x.length ≤ 9 := by
  have key : ∀ x ∈ ones, (∀ c ∈ x, 0 ≤ c ∧ c ≤ 255) ∧ x.length ≤ 9 := by decide
  exact key x (List.mem_of_getElem? h)
theorem pfind_at {α : Type} {p : α → Bool} : ∀ {l : List α} {k : Nat} {x : α}, (∀ (j : Nat) (y : α), j < k → l[j]? = some y → p y = false) → l[k]? = some x → p x = true → l.find? p = some x
  | [], k, x, _, h, _ => by simp at h
  | a :: l, 0, x, _, h, hp => by
    simp at h; subst h
    simp [List.find?, hp]
  | a :: l, k + 1, x, hn, h, hp => by
    have h0 := hn 0 a (by omega) rfl
    simp only [List.find?, h0]
    exact pfind_at (k := k) (fun j y hj hy => hn (j + 1) y (by omega) (by simpa using hy)) (by simpa using h) hp
theorem find_no {s : St} (h : ∀ (j : Nat) (x : List Int), j < 9 → ones[j]? = some x → isWS x s = false) {L : List Em4.Tok} (e : s = .ok L) : ones.find? (fun o => isW o L) = none := by
  subst e
  rw [List.find?_eq_none]
  intro x hx
  obtain ⟨j, hj, rfl⟩ := List.getElem_of_mem hx
  have := h j _ (by simpa [ones] using hj) (List.getElem?_eq_getElem hj)
  simp only [isWS] at this
  rw [this]; decide

set_option maxRecDepth 100000 in
set_option maxHeartbeats 4000000 in
theorem papp_does (d : Nat) (C : List Em4.Tok → R) (hC : Does 89 d C) (hS : Shr C) : Does 82 d (appS C) := by
  intro w pb tb s h
  have HH : Hid (IsSt w pb tb s) := h
  have HC : Hid (Does 89 d C) := hC
  obtain ⟨hlp, hlt, hne⟩ := h.lt
  clear h hC
  have HSH : Hid (Shr C) := hS
  clear hS
  go_enter Tryd.func82, Tryd.ntmps82
  go_wp2_with fail
  have z4 := Six.made w (.string ⟨#[]⟩) (.string ⟨#[]⟩) (.string ⟨#[]⟩) (.int .i64 0) (.int .i64 0) (.slice none 0 0) 24
  refine (pnow_any pb tb s _ (HH.out.alloc _)).mono ?_
  rintro e w1 ⟨rfl, hb1⟩
  obtain ⟨t, htd⟩ : ∃ t, t = nowS s := ⟨_, rfl⟩
  have HP : Hid (posS s = t.pos) := by rw [htd]; exact posS_now s
  have hpos : t.pos ≤ 140737488351232 := by rw [htd]; exact HH.out.now.2.2.1
  rw [← htd]
  clear htd
  simp only [Em6.tokV]
  have f3 := fld3 t.kind (Em.str t.text) t.num t.pos
  have p4 := z4.below hb1
  have g6 : w.heap.size < w1.heap.size := p4.lt
  have HST : Hid (AppI pb tb w s w1.heap.size 0 (w1.alloc (.cells #[.string ⟨#[114, 97, 105, 115, 101]⟩, .string ⟨#[102, 115, 116]⟩, .string ⟨#[115, 110, 100]⟩, .string ⟨#[114, 101, 102]⟩, .string ⟨#[99, 101, 108, 108]⟩, .string ⟨#[116, 97, 103]⟩, .string ⟨#[108, 105, 110, 107, 115]⟩, .string ⟨#[115, 105, 122, 101]⟩, .string ⟨#[112, 114, 105, 110, 116]⟩] 9))) := by
    refine ⟨p4.alloc _, ((HH.out.alloc _).below hb1).alloc _, (((Bes.refl pb w).alloc _).trans (Bes.of hb1)).alloc _, fun j x hj => ?_, fun j x hj => by omega, by simp⟩
    have hl : j < 9 := by
      have := (List.getElem?_eq_some_iff.1 hj).1
      simpa [ones] using this
    match j, hl with
    | 0, _ => simp [ones] at hj; subst hj; simp; rfl
    | 1, _ => simp [ones] at hj; subst hj; simp; rfl
    | 2, _ => simp [ones] at hj; subst hj; simp; rfl
    | 3, _ => simp [ones] at hj; subst hj; simp; rfl
    | 4, _ => simp [ones] at hj; subst hj; simp; rfl
    | 5, _ => simp [ones] at hj; subst hj; simp; rfl
    | 6, _ => simp [ones] at hj; subst hj; simp; rfl
    | 7, _ => simp [ones] at hj; subst hj; simp; rfl
    | 8, _ => simp [ones] at hj; subst hj; simp; rfl
  clear z4 hb1 p4
  go_wp2
  go_loopw [7] (fun u wr => ∃ k : Nat, u = .int .i64 k ∧ k ≤ 9 ∧ Hid (AppI pb tb w s w1.heap.size k wr)) (fun u _ => 9 - (intOf u).toNat)
  case atStart => exact ⟨0, rfl, by omega, HST⟩
  case round =>
    obtain ⟨k, rfl, hk, HL⟩ := hrel
    obtain ⟨o4, h1, bs1, hon, hno, hgl⟩ := HL.out
    have HON : Hid (OnesIn wr w1.heap.size) := hon
    have HNO : Hid (∀ (j : Nat) (x : List Int), j < k → ones[j]? = some x → isWS x s = false) := hno
    clear HST HL hon hno
    by_cases hk9 : k < 9
    · obtain ⟨x, hx⟩ : ∃ x, ones[k]? = some x := ⟨_, List.getElem?_eq_getElem (by simpa [ones] using hk9)⟩
      have hxt := ones_txt hx
      have HX : Hid (ones[k]? = some x) := hx
      have hcx := HON.out k x hx
      have hk0 : (0 : Int) ≤ (k : Int) := by omega
      clear hx
      go_wp2_with fail
      refine (peat_any pb tb s x _ h1 hxt.1).mono ?_
      rintro e w3 ⟨rfl, h3, b3⟩
      have q43 := o4.bes b3 (by omega)
      have bs3 := bs1.trans b3
      have ho3 := HON.out.bes b3 (by omega) hgl
      have hg3 : w1.heap.size < w3.heap.size := Nat.lt_of_lt_of_le hgl b3.size
      have hcx3 := ho3 k x HX.out
      clear hcx h1 o4 bs1 HON b3 hgl
      obtain ⟨q3, hq3⟩ : ∃ q, q = isWS x s := ⟨_, rfl⟩
      rw [← hq3]
      cases q3 with
      | false =>
        rw [eatS_f hq3.symm] at h3
        have HR : Hid (AppI pb tb w s w1.heap.size (k + 1) w3) := ⟨q43, h3, bs3, ho3, fun j y hj hy => by
          rcases Nat.lt_succ_iff_lt_or_eq.1 hj with h | rfl
          · exact HNO.out j y h hy
          · rw [HX.out] at hy; simp only [Option.some.injEq] at hy; subst hy; exact hq3.symm, hg3⟩
        clear hq3 h3 q43 bs3 ho3
        go_wp2_with fail
        go_roundw
        case rel => exact ⟨k + 1, by go_num, by omega, HR⟩
        case measure => simp [intOf]; omega
      | true =>
        obtain ⟨t', r', rfl, -⟩ := isWS_ok hq3.symm
        rw [eatS_t hq3.symm] at h3
        have HQ : Hid (isW x (t' :: r') = true) := hq3.symm
        have HP' : Hid (t'.pos = t.pos) := HP.out
        have HFD : Hid (ones.find? (fun o => isW o (t' :: r')) = some x) := pfind_at (k := k) (fun j y hj hy => HNO.out j y hj hy) HX.out HQ.out
        have HO : Hid (∀ w', Bes pb w3 w' → w'.cell? ⟨w1.heap.size, k, none⟩ = some (.string (Em.str x))) := fun w' hb => by rw [hb.cell (p := ⟨w1.heap.size, k, none⟩) hg3 (by show w1.heap.size ≠ pb; omega)]; exact hcx3
        have hbd : Bes pb w3 w3.drew := (Bes.refl _ _).drew
        clear hq3 ho3 HNO
        go_wp2_with fail
        go_region_held (fun w' => w'.cell? ⟨w1.heap.size, k, none⟩ = some (.string (Em.str x)))
          (with_reducible (first | exact u6 | exact u5 | exact HO.out _ (b83.alloc _) | exact HO.out _ b83 | exact HO.out _ hbd))
          (first | (go_at_call 89; refine (HC.out _ pb tb (.ok r') h3.drew).mono ?_; rintro e w8 ⟨v8, n8, s8, rfl, d8, h8, b8, F8⟩; obtain ⟨y0, y1, y2, ym, yp, ya, yl, yc, rfl⟩ := ndb_shape d8; have t4 := q43.drew.bes b8 (by omega); have bs8 := bs3.drew.trans b8; have b83 := hbd.trans b8; have e8' : NdB (w.heap.size + 1) w8 n8 _ := ndb_mono d8 (by simp; omega); have HF8 : Hid (Fits (thn (.ok r') C) n8 s8) := F8; have hg8 := b83.size; clear F8 d8 b8) | (go_at_call 38; refine (pnode_any _ _ _ _ _ _).mono ?_; rintro e w9 ⟨rfl, hb9⟩; have u4 := (t4.alloc _).below hb9; have b93 := (b83.alloc _).trans (Bes.of hb9); have u5 := HO.out _ b93; have h9 := (h8.alloc _).below hb9; have bs9 := (bs8.alloc _).trans (Bes.of hb9); have e9 : NdB (w.heap.size + 1) w9 (nd x t.pos [n8]) (.agg #[.string (Em.str x), .string (Em.str []), .string (Em.str []), .int .i64 0, .int .i64 t.pos, .slice (some ⟨w8.heap.size, 0, none⟩) 1 1]) := ndp_one (op := x) e8' (by simpa using hb9) rfl (by omega) ⟨hxt.1, by omega⟩ txt_nil txt_nil hpos; obtain ⟨W, hW, sx, hz, hk', hbb⟩ := u4.set (.string (Em.str x)) (.string (Em.str [])) (.string (Em.str [])) (.int .i64 0) (.int .i64 t.pos) (.slice (some ⟨w8.heap.size, 0, none⟩) 1 1); have u6 : W.cell? ⟨w1.heap.size, k, none⟩ = some (.string (Em.str x)) := (by rw [World.cell?_of_block (a := ⟨w1.heap.size, k, none⟩) (hk' _ (by show w1.heap.size ≠ w.heap.size; omega))]; exact u5); obtain ⟨a0, a1, a2, a3, a4, a5, f0, f1, f2, f3', f4, f5⟩ := id u4))
        all_goals
          go_wp2
          obtain ⟨c0, c1, c2, c3, c4, c5, -⟩ := id sx
          refine bodyPost_ret (v := .agg #[.string (Em.str x), .string (Em.str []), .string (Em.str []), .int .i64 0, .int .i64 t.pos, .slice (some ⟨w8.heap.size, 0, none⟩) 1 1]) (by simp [results, Tryd.results82, go_sem, c0, c1, c2, c3, c4, c5]) rfl ?_
          refine ⟨_, nd x t.pos [n8], s8, rfl, ndb_mono (ndb_set e9 (by omega) hz hk') (by omega), h9.set hz hk' (by omega) (by omega), hbb pb w bs9 (Nat.le_refl _), ?_⟩
          show Fits (appS C (t' :: r')) _ _
          unfold appS
          rw [HFD.out]
          refine fits_bnd HF8.out ?_
          show Fits (thn s8 fun L2 => .ok (nd x t'.pos [n8], L2)) _ _
          rw [HP'.out]
          exact fits_ok
    · have hk2 : k = 9 := by omega
      subst hk2
      clear HON hk9 hk hgl
      have HFN : Hid (∀ L, s = .ok L → ones.find? (fun o => isW o L) = none) := fun L e => find_no HNO.out e
      clear HNO
      go_wp2_with fail
      refine (peat_any pb tb s [108, 105, 110, 107] _ h1 (by decide)).mono ?_
      rintro e w3 ⟨rfl, h3, b3⟩
      have q43 := o4.bes b3 (by omega)
      have bs3 := bs1.trans b3
      have gl3 := q43.lt
      clear h1 o4 bs1 b3
      obtain ⟨q3, hq3⟩ : ∃ q, q = isWS [108, 105, 110, 107] s := ⟨_, rfl⟩
      rw [← hq3]
      cases q3 with
      | true =>
        obtain ⟨t', r', rfl, -⟩ := isWS_ok hq3.symm
        rw [eatS_t hq3.symm] at h3
        have HQ : Hid (isW [108, 105, 110, 107] (t' :: r') = true) := hq3.symm
        have HP' : Hid (t'.pos = t.pos) := HP.out
        clear hq3
        go_wp2_with fail
        refine (HC.out _ pb tb (.ok r') h3).mono ?_
        rintro e w5 ⟨v5, n5, s5, rfl, d5, h5, b5, F5⟩
        obtain ⟨x0, x1, x2, xm, xp, xa, xl, xc, rfl⟩ := ndb_shape d5
        have z8 := (Six.made w5 (.string x0) (.string x1) (.string x2) (.int .i64 xm) (.int .i64 xp) (.slice xa xl xc) 24).drew
        have p4 := ((q43.bes b5 (by omega)).alloc (.cells #[.string x0, .string x1, .string x2, .int .i64 xm, .int .i64 xp, .slice xa xl xc] 24)).drew
        have bs5 := ((bs3.trans b5).alloc (.cells #[.string x0, .string x1, .string x2, .int .i64 xm, .int .i64 xp, .slice xa xl xc] 24)).drew
        have h5' := (h5.alloc (.cells #[.string x0, .string x1, .string x2, .int .i64 xm, .int .i64 xp, .slice xa xl xc] 24)).drew
        have d5' : NdB (w.heap.size + 1) _ n5 _ := ndb_below (ndb_below (ndb_mono d5 (by omega)) ((Below.refl _ _).alloc (Nat.le_refl _) (.cells #[.string x0, .string x1, .string x2, .int .i64 xm, .int .i64 xp, .slice xa xl xc] 24))) (Below.refl _ _).drew
        have g8 : w.heap.size < w5.heap.size := Nat.lt_of_lt_of_le gl3 b5.size
        have HF5 : Hid (Fits (thn (.ok r') C) n5 s5) := F5
        clear F5 d5 h5 b5 h3 bs3 q43
        go_wp2_with fail
        go_region_held (fun w' => w'.cell? ⟨w5.heap.size, 0, none⟩ = some (.string x0) ∧ w'.cell? ⟨w5.heap.size, 1, none⟩ = some (.string x1) ∧ w'.cell? ⟨w5.heap.size, 2, none⟩ = some (.string x2) ∧ w'.cell? ⟨w5.heap.size, 3, none⟩ = some (.int .i64 xm) ∧ w'.cell? ⟨w5.heap.size, 4, none⟩ = some (.int .i64 xp) ∧ w'.cell? ⟨w5.heap.size, 5, none⟩ = some (.slice xa xl xc))
          (with_reducible (first | exact u6.held | exact u5.held | exact (t5.alloc _).held | exact t5.held | exact z8.held))
          (first | (go_at_call 89; refine (HC.out _ pb tb s5 h5').mono ?_; rintro e w8 ⟨v8, n8, s8, rfl, d8, h8, b8, F8⟩; obtain ⟨y0, y1, y2, ym, yp, ya, yl, yc, rfl⟩ := ndb_shape d8; have t4 := p4.bes b8 (by omega); have t5 := z8.bes b8 (by omega); have bs8 := bs5.trans b8; have e8 : NdB (w.heap.size + 1) w8 n5 _ := ndb_bes d5' (by omega) b8; have e8' : NdB (w.heap.size + 1) w8 n8 _ := ndb_mono d8 (by simp; omega); have HF8 : Hid (Fits (thn s5 C) n8 s8) := F8; clear F8 d8 b8 z8) | (go_at_call 38; refine (pnode_any _ _ _ _ _ _).mono ?_; rintro e w9 ⟨rfl, hb9⟩; have u4 := (t4.alloc _).below hb9; have u5 := (t5.alloc _).below hb9; have h9 := (h8.alloc _).below hb9; have bs9 := (bs8.alloc _).trans (Bes.of hb9); have e9 : NdB (w.heap.size + 1) w9 (nd [108, 105, 110, 107] t.pos [n5, n8]) (.agg #[.string ⟨#[108, 105, 110, 107]⟩, .string (Em.str []), .string (Em.str []), .int .i64 0, .int .i64 t.pos, .slice (some ⟨w8.heap.size, 0, none⟩) 2 2]) := ndp_two (op := [108, 105, 110, 107]) e8 e8' (by simpa using hb9) rfl (by have := t5.lt; omega) ⟨by decide, by decide⟩ txt_nil txt_nil hpos; obtain ⟨W, hW, sx, hz, hk, hbb⟩ := u4.set (.string ⟨#[108, 105, 110, 107]⟩) (.string (Em.str [])) (.string (Em.str [])) (.int .i64 0) (.int .i64 t.pos) (.slice (some ⟨w8.heap.size, 0, none⟩) 2 2); have u6 : Six W w5.heap.size _ _ _ _ _ _ := u5.far hk (by omega); obtain ⟨a0, a1, a2, a3, a4, a5, f0, f1, f2, f3', f4, f5⟩ := id u4))
        all_goals
          go_wp2
          obtain ⟨c0, c1, c2, c3, c4, c5, -⟩ := id sx
          refine bodyPost_ret (v := .agg #[.string ⟨#[108, 105, 110, 107]⟩, .string (Em.str []), .string (Em.str []), .int .i64 0, .int .i64 t.pos, .slice (some ⟨w8.heap.size, 0, none⟩) 2 2]) (by simp [results, Tryd.results82, go_sem, c0, c1, c2, c3, c4, c5]) rfl ?_
          refine ⟨_, nd [108, 105, 110, 107] t.pos [n5, n8], s8, rfl, ndb_mono (ndb_set e9 (by omega) hz hk) (by omega), h9.set hz hk (by omega) (by omega), hbb pb w bs9 (Nat.le_refl _), ?_⟩
          show Fits (appS C (t' :: r')) _ _
          unfold appS
          rw [HFN.out _ rfl]
          simp only
          rw [if_pos HQ.out]
          refine fits_bnd HF5.out ?_
          refine fits_thn HF8.out ?_
          show Fits (thn s8 fun L2 => .ok (nd [108, 105, 110, 107] t'.pos [n5, n8], L2)) _ _
          rw [HP'.out]
          exact fits_ok
      | false =>
        rw [eatS_f hq3.symm] at h3
        have HFA : Hid (∀ m s'', Fits (thn s (fun L => bnd (C L) fun a L1 => appF C L1.length a L1)) m s'' → Fits (thn s (appS C)) m s'') := fun m s'' hf => fits_fuel hf (fun L e => by
          have hl : isW [108, 105, 110, 107] L = false := by have := hq3.symm; rw [e] at this; exact this
          unfold appS
          rw [HFN.out _ e]
          simp only
          rw [if_neg (by rw [hl]; decide)])
        clear hq3 HFN
        go_wp2_with fail
        refine (HC.out _ pb tb s h3).mono ?_
        rintro e w5 ⟨v5, n5, s5, rfl, d5, h5, b5, F5⟩
        obtain ⟨x0, x1, x2, xm, xp, xa, xl, xc, rfl⟩ := ndb_shape d5
        have p4 := q43.bes b5 (by omega)
        have g5 : w.heap.size < w5.heap.size := Nat.lt_of_lt_of_le gl3 b5.size
        have HST : Hid (LoopI C appF pb tb w s w5.heap.size (w5.alloc (.cells #[.string x0, .string x1, .string x2, .int .i64 xm, .int .i64 xp, .slice xa xl xc] 24))) :=
          ⟨n5, s5, x0, x1, x2, xm, xp, xa, xl, xc, Six.made w5 _ _ _ _ _ _ _, p4.alloc _, h5.alloc _, (bs3.trans b5).alloc _, ndp_below (ndq_of (ndb_mono d5 (by omega)) (Nat.le_refl _)) ((Below.refl _ _).alloc (Nat.le_refl _) _), fun m s'' hf => fits_thn F5 hf⟩
        clear b5 h5 p4 bs3 d5 F5 h3 q43
        go_wp2
        go_loopw [10] (fun _ wr => Hid (LoopI C appF pb tb w s w5.heap.size wr)) (fun _ wr => mu pb wr)
        case atStart => exact HST
        case round =>
          have HL := hrel
          clear hrel
          obtain ⟨n1, s1, x0, x1, x2, xm, xp, xa, xl, xc, o5, o4, h1, bs1, d1, HD⟩ := HL.out
          have HD : Hid (∀ (m : Nd) (s'' : St), Fits (thn s1 (fun L => appF C L.length n1 L)) m s'' → Fits (thn s (fun L => bnd (C L) fun a L1 => appF C L1.length a L1)) m s'') := HD
          have HM : Hid (mu pb wr = lenS s1) := mu_eq h1
          clear HST HL
          go_wp2_with fail
          refine (pbegins_any pb tb s1 _ h1).mono ?_
          rintro e w6 ⟨rfl, hb6⟩
          have h6 := h1.below hb6
          have q46 := o4.below hb6
          have q56 := o5.below hb6
          have bs6 : Bes pb w w6 := bs1.trans (Bes.of hb6)
          have d6 := ndp_below d1 hb6
          clear h1 o4 o5 bs1 d1 hb6
          obtain ⟨q6, hq6⟩ : ∃ q, q = beginsS s1 := ⟨_, rfl⟩
          rw [← hq6]
          cases q6 with
          | false =>
            have HF := HFA.out n1 s1 (HD.out n1 s1 (app_stop hq6.symm))
            obtain ⟨c0, c1, c2, c3, c4, c5, -⟩ := id q56
            obtain ⟨a0, a1, a2, a3, a4, a5, f0, f1, f2, f3', f4, f5⟩ := id q46
            clear hq6
            have HF' : Hid (Fits _ n1 s1) := HF
            clear HF
            go_wp2_with fail
            obtain ⟨W, hW, sx, hz, hk, hbb⟩ := q46.set (.string x0) (.string x1) (.string x2) (.int .i64 xm) (.int .i64 xp) (.slice xa xl xc)
            rw [hW]
            obtain ⟨c0, c1, c2, c3, c4, c5, -⟩ := id sx
            refine bodyPost_ret (v := .agg #[.string x0, .string x1, .string x2, .int .i64 xm, .int .i64 xp, .slice xa xl xc]) (by simp [results, Tryd.results82, go_sem, c0, c1, c2, c3, c4, c5]) rfl ?_
            exact ⟨_, n1, s1, rfl, ndb_mono (ndb_set (ndq_ndb d6) (by omega) hz hk) (by omega), h6.set hz hk (by omega) (by omega), hbb pb w bs6 (Nat.le_refl _), HF'.out⟩
          | true =>
            obtain ⟨t', r', rfl⟩ := beginsS_ok hq6.symm
            have HQ : Hid (beginsS (.ok (t' :: r')) = true) := hq6.symm
            clear hq6
            have HPQ := HP
            clear HP hpos f3
            go_wp2_with fail
            refine (pnow_any pb tb _ _ h6).mono ?_
            rintro e w7 ⟨rfl, hb7⟩
            have hpos : t'.pos ≤ 140737488351232 := h6.now.2.2.1
            rw [show nowS (.ok (t' :: r')) = t' from rfl]
            simp only [Em6.tokV]
            have f3 := fld3 t'.kind (Em.str t'.text) t'.num t'.pos
            have h7 := h6.below hb7
            have q47 := q46.below hb7
            have q57 := q56.below hb7
            have bs7 : Bes pb w w7 := bs6.trans (Bes.of hb7)
            have d7 := ndp_below d6 hb7
            clear h6 q46 q56 bs6 d6 hb7
            have r5d := q57.drew
            obtain ⟨k0, k1, k2, k3, k4, k5, -⟩ := id r5d
            have hgl := q57.lt
            go_wp2_with fail
            go_region_with
              (first | (go_at_call 89; refine (HC.out _ pb tb (.ok (t' :: r')) h7.drew).mono ?_; rintro e w8 ⟨v8, n8, s8, rfl, d8, h8, b8, F8⟩; obtain ⟨y0, y1, y2, ym, yp, ya, yl, yc, rfl⟩ := ndb_shape d8; have t4 := q47.drew.bes b8 (by omega); have t5 := r5d.bes b8 (by omega); obtain ⟨l0, l1, l2, l3, l4, l5, -⟩ := id t5; have bs8 := bs7.drew.trans b8; have e8 : NdQ (w.heap.size + 1) w5.heap.size w8 n1 _ := ndp_bes (ndp_below d7 (Below.refl _ _).drew) (by omega) b8; have e8' : NdQ (w.heap.size + 1) w5.heap.size w8 n8 _ := ndq_of2 d8 (by simp; omega) (by simp; omega); have HF8 : Hid (Fits (thn (.ok (t' :: r')) C) n8 s8) := F8; have hgl8 := t5.lt; clear F8 d8 b8 r5d) | (go_at_call 38; refine (pnode_any _ _ _ _ _ _).mono ?_; rintro e w9 ⟨rfl, hb9⟩; have u4 := (t4.alloc _).below hb9; have u5 := (t5.alloc _).below hb9; have h9 := (h8.alloc _).below hb9; have bs9 := (bs8.alloc _).trans (Bes.of hb9); have e9 : NdQ (w.heap.size + 1) w5.heap.size w9 (nd [97, 112, 112] t'.pos [n1, n8]) (.agg #[.string ⟨#[97, 112, 112]⟩, .string (Em.str []), .string (Em.str []), .int .i64 0, .int .i64 t'.pos, .slice (some ⟨w8.heap.size, 0, none⟩) 2 2]) := ndp_two (op := [97, 112, 112]) e8 e8' (by simpa using hb9) rfl ⟨by omega, by omega⟩ ⟨by decide, by decide⟩ txt_nil txt_nil hpos; obtain ⟨W, hW, sx, hz, hk, hbb⟩ := u5.set (.string ⟨#[97, 112, 112]⟩) (.string (Em.str [])) (.string (Em.str [])) (.int .i64 0) (.int .i64 t'.pos) (.slice (some ⟨w8.heap.size, 0, none⟩) 2 2); obtain ⟨a0, a1, a2, a3, a4, a5, f0, f1, f2, f3', f4, f5⟩ := id u5))
            all_goals
              go_wp2
              go_roundw
              case rel => exact ⟨nd [97, 112, 112] t'.pos [n1, n8], s8, _, _, _, _, _, _, _, _, sx, u4.far hk (by omega), h9.set hz hk (by omega) (by omega), hbb pb w bs9 (by omega), ndq_set e9 hz hk, fun m s'' hf => HD.out m s'' (app_round HSH.out HQ.out HF8.out hf)⟩
              case measure =>
                have hm9 := mu_eq (h9.set hz hk (by omega) (by omega))
                rw [hm9, HM.out]
                exact fits_len HSH.out HF8.out (Nat.succ_pos _)
end Go.Proofs.YtoekhejpompjlaaDoor

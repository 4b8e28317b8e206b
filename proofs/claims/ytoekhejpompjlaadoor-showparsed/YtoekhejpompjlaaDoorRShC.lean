/- What the document's own 'Text' of chapter 7 answers. -/
import Derived.Test.YtoekhejpompjlaaDoorRShG
namespace Go.Proofs.YtoekhejpompjlaaDoor
open Go.RowKit
set_option linter.unusedSimpArgs false

set_option maxRecDepth 100000 in
set_option maxHeartbeats 8000000 in
theorem stext_any (T : Em5.Nd) : ∀ (v : Value) (w : World), Em5.IsNd w T v → Em5.each T = true → T.size ≤ 2000 →
    Calls Tryd.prog 10 #[v] w fun e w' => e = .returned (.string (Em.str (Em7.text T))) ∧ Below w.heap.size w w' := by
  induction T using Em5.Nd.ind with
  | h op nm ar n p l ih =>
    intro v w hv he hs
    rw [Em5.Nd.size] at hs
    have hi : ∀ t ∈ l, ∀ (v : Value) (w : World), Em5.IsNd w t v → Calls Tryd.prog 10 #[v] w fun e w' => e = .returned (.string (Em.str (Em7.text t))) ∧ Below w.heap.size w w' := fun t ht v w h => ih t ht v w h (Em7.each_kids he t ht) (by have := Em7.size_mem l t ht; omega)
    have htl : ∀ t ∈ l, (Em7.text t).length ≤ 300000 := fun t ht => by
      have h1 := Em7.text_len t (Em7.each_kids he t ht)
      have h2 := Em7.size_mem l t ht
      omega
    have HI : Hid (∀ t ∈ l, ∀ (v : Value) (w : World), Em5.IsNd w t v → Calls Tryd.prog 10 #[v] w fun e w' => e = .returned (.string (Em.str (Em7.text t))) ∧ Below w.heap.size w w') := hi
    have HTL : Hid (∀ t ∈ l, (Em7.text t).length ≤ 300000) := htl
    have HE : Hid (Em5.each (.mk op nm ar n p l) = true) := he
    have HV : Hid (Em5.IsNd w (.mk op nm ar n p l) v) := hv
    obtain ⟨ho5, hn40, ha40, hkn⟩ := Em7.each_cases he
    obtain ⟨hn0, hn1⟩ := Em7.each_num he
    unfold Em5.IsNd at hv
    obtain ⟨a, cap, rfl, t1, t2, t3, t4, t5, hc1, hc2, hk⟩ := hv
    have hq := Em5.str_eq t1.1
    rw [Em7.text]
    clear hi htl he t1 t2 t3 t4 t5 ih hs
    obtain ⟨R, hR⟩ : ∃ R, R = Em7.textB op nm ar n (Em7.texts l) := ⟨_, rfl⟩
    have HRT : Hid (R = Em7.textB op nm ar n (Em7.texts l)) := hR
    rw [← hR]
    clear hR
    have hbA : Below w.heap.size w (w.alloc (.cells #[.string (Em.str op), .string (Em.str nm), .string (Em.str ar), .int .i64 n, .int .i64 p, .slice a l.length cap] 24)) := (Below.refl _ _).alloc (Nat.le_refl _) _
    have q_int : ((Em.str op).toList == [105, 110, 116]) = decide (op = Em5.oInt) := hq [105, 110, 116]
    have q_bool : ((Em.str op).toList == [98, 111, 111, 108]) = decide (op = Em5.oBool) := hq [98, 111, 111, 108]
    have q_unit : ((Em.str op).toList == [117, 110, 105, 116]) = decide (op = Em5.oUnit) := hq [117, 110, 105, 116]
    have q_nil : ((Em.str op).toList == [110, 105, 108]) = decide (op = Em5.oNil) := hq [110, 105, 108]
    have q_str : ((Em.str op).toList == [115, 116, 114]) = decide (op = Em5.oStr) := hq [115, 116, 114]
    have q_var : ((Em.str op).toList == [118, 97, 114]) = decide (op = Em5.oVar) := hq [118, 97, 114]
    have q_pair : ((Em.str op).toList == [112, 97, 105, 114]) = decide (op = Em5.oPair) := hq [112, 97, 105, 114]
    have q_get : ((Em.str op).toList == [103, 101, 116]) = decide (op = Em5.oGet) := hq [103, 101, 116]
    clear hq
    by_cases h1 : op = Em5.oInt
    · rw [decide_eq_true h1] at q_int
      have HO : Hid (op = Em5.oInt) := h1
      clear h1 q_bool q_unit q_nil q_str q_var q_pair q_get
      obtain ⟨m, rfl⟩ := Int.eq_ofNat_of_zero_le hn0
      have HR : Hid (R = Em7.digs m) := by rw [Hid, HRT.out, Em7.textB, if_pos HO.out]; simp
      rw [HR.out]
      go_enter Tryd.func10, Tryd.ntmps10
      go_wp2_with fail
      refine (sdigits_any m _ (by omega)).mono ?_
      rintro e w1 ⟨rfl, hb1⟩
      go_wp2_with fail
      go_ret
      exact ⟨rfl, hbA.trans (hb1.mono hbA.size)⟩
    rw [decide_eq_false h1] at q_int
    have HX0 : Hid (¬ op = Em5.oInt) := h1
    clear h1
    by_cases h1 : op = Em5.oBool
    · rw [decide_eq_true h1] at q_bool
      have HO : Hid (op = Em5.oBool) := h1
      clear h1 q_unit q_nil q_str q_var q_pair q_get
      by_cases h1 : n = 1
      · have HR : Hid (R = [116, 114, 117, 101]) := by rw [Hid, HRT.out, Em7.textB, if_neg HX0.out, if_pos HO.out, if_pos h1]
        subst h1
        rw [HR.out]
        go_enter Tryd.func10, Tryd.ntmps10
        go_wp2_with fail
        go_ret
        exact ⟨rfl, hbA⟩
      · have HR : Hid (R = [102, 97, 108, 115, 101]) := by rw [Hid, HRT.out, Em7.textB, if_neg HX0.out, if_pos HO.out, if_neg h1]
        have hb : (n == 1) = false := by simpa using h1
        rw [HR.out]
        clear h1
        go_enter Tryd.func10, Tryd.ntmps10
        go_wp2_with fail
        go_ret
        exact ⟨rfl, hbA⟩
    rw [decide_eq_false h1] at q_bool
    have HX1 : Hid (¬ op = Em5.oBool) := h1
    clear h1
    by_cases h1 : op = Em5.oUnit
    · rw [decide_eq_true h1] at q_unit
      have HO : Hid (op = Em5.oUnit) := h1
      clear h1 q_nil q_str q_var q_pair q_get
      have HR : Hid (R = [40, 41]) := by rw [Hid, HRT.out, Em7.textB, if_neg HX0.out, if_neg HX1.out, if_pos HO.out]
      rw [HR.out]
      go_enter Tryd.func10, Tryd.ntmps10
      go_wp2_with fail
      go_ret
      exact ⟨rfl, hbA⟩
    rw [decide_eq_false h1] at q_unit
    have HX2 : Hid (¬ op = Em5.oUnit) := h1
    clear h1
    by_cases h1 : op = Em5.oNil
    · rw [decide_eq_true h1] at q_nil
      have HO : Hid (op = Em5.oNil) := h1
      clear h1 q_str q_var q_pair q_get
      have HR : Hid (R = [91, 93]) := by rw [Hid, HRT.out, Em7.textB, if_neg HX0.out, if_neg HX1.out, if_neg HX2.out, if_pos HO.out]
      rw [HR.out]
      go_enter Tryd.func10, Tryd.ntmps10
      go_wp2_with fail
      go_ret
      exact ⟨rfl, hbA⟩
    rw [decide_eq_false h1] at q_nil
    have HX3 : Hid (¬ op = Em5.oNil) := h1
    clear h1
    by_cases h1 : op = Em5.oStr
    · rw [decide_eq_true h1] at q_str
      have HO : Hid (op = Em5.oStr) := h1
      clear h1 q_var q_pair q_get
      have HR : Hid (Em.str R = (⟨#[34]⟩ : ByteArray) ++ Em.str nm ++ (⟨#[34]⟩ : ByteArray)) := by
        rw [Hid, HRT.out, Em7.textB, if_neg HX0.out, if_neg HX1.out, if_neg HX2.out, if_neg HX3.out, if_pos HO.out, ← str_app7, ← str_app7]
        rfl
      have hz2 : ¬ 9223372036854775807 < 1 + (Em.str nm).size := by simp only [str_size7]; omega
      have hz3 : ¬ 9223372036854775807 < 1 + (Em.str nm).size + 1 := by simp only [str_size7]; omega
      go_enter Tryd.func10, Tryd.ntmps10
      go_wp2_with fail
      go_ret
      exact ⟨congrArg (fun z => Ending.returned (Value.string z)) HR.out.symm, hbA⟩
    rw [decide_eq_false h1] at q_str
    have HX4 : Hid (¬ op = Em5.oStr) := h1
    clear h1
    by_cases h1 : op = Em5.oVar
    · rw [decide_eq_true h1] at q_var
      have HO : Hid (op = Em5.oVar) := h1
      clear h1 q_pair q_get
      have HR : Hid (R = nm) := by rw [Hid, HRT.out, Em7.textB, if_neg HX0.out, if_neg HX1.out, if_neg HX2.out, if_neg HX3.out, if_neg HX4.out, if_pos HO.out]
      rw [HR.out]
      go_enter Tryd.func10, Tryd.ntmps10
      go_wp2_with fail
      go_ret
      exact ⟨rfl, hbA⟩
    rw [decide_eq_false h1] at q_var
    have HX5 : Hid (¬ op = Em5.oVar) := h1
    clear h1
    by_cases h1 : op = Em5.oPair
    · rw [decide_eq_true h1] at q_pair
      have HO : Hid (op = Em5.oPair) := h1
      clear h1 q_get
      have hl2 : l.length = 2 := by rw [HO.out, show Em5.kidsN _ = 2 from by decide] at hkn; omega
      obtain ⟨x, y, rfl⟩ : ∃ x y, l = [x, y] := by
        match l, hl2 with
        | [x, y], _ => exact ⟨x, y, rfl⟩
      clear hl2 hkn
      obtain ⟨b, off, rfl, hb, hat⟩ := hk (by simp)
      obtain ⟨c0, c1, c2, c3, c4, c5, ck0, ck1, ck2, ck3, ck4, ck5, cn⟩ := Em5.kidsAt_get _ off 0 x hat rfl
      simp only [Nat.zero_mul, Nat.add_zero, Nat.one_mul, Nat.reduceMul] at ck0 ck1 ck2 ck3 ck4 ck5
      have HN1 : Hid (∀ w', Below w.heap.size w w' → Calls Tryd.prog 10 #[.agg #[c0, c1, c2, c3, c4, c5]] w' fun e w2 => e = .returned (.string (Em.str (Em7.text x))) ∧ Below w'.heap.size w' w2) := fun w' h => HI.out x (by simp) _ w' (Em5.isNd_below h x _ cn)
      have hl1 : (Em7.text x).length ≤ 300000 := HTL.out x (by simp)
      obtain ⟨d0, d1, d2, d3, d4, d5, dk0, dk1, dk2, dk3, dk4, dk5, dn⟩ := Em5.kidsAt_get _ off 1 y hat rfl
      simp only [Nat.zero_mul, Nat.add_zero, Nat.one_mul, Nat.reduceMul] at dk0 dk1 dk2 dk3 dk4 dk5
      have HN2 : Hid (∀ w', Below w.heap.size w w' → Calls Tryd.prog 10 #[.agg #[d0, d1, d2, d3, d4, d5]] w' fun e w2 => e = .returned (.string (Em.str (Em7.text y))) ∧ Below w'.heap.size w' w2) := fun w' h => HI.out y (by simp) _ w' (Em5.isNd_below h y _ dn)
      have hl2 : (Em7.text y).length ≤ 300000 := HTL.out y (by simp)
      clear hat HI HTL cn dn
      obtain ⟨W, hW⟩ : ∃ W, W = w.alloc (.cells #[.string (Em.str op), .string (Em.str nm), .string (Em.str ar), .int .i64 n, .int .i64 p, .slice (some ⟨b, off, none⟩) 2 cap] 24) := ⟨_, rfl⟩
      have hbW : Below w.heap.size w W := by rw [hW]; exact (Below.refl _ _).alloc (Nat.le_refl _) _
      have HSX : Hid (∀ w', Below W.heap.size W w' → Below W.heap.size W w' ∧ w'.cell? ⟨w.heap.size, 5, none⟩ = some (.slice (some ⟨b, off, none⟩) 2 cap) ∧ w'.cell? ⟨b, off, none⟩ = some c0 ∧ w'.cell? ⟨b, off + 1, none⟩ = some c1 ∧ w'.cell? ⟨b, off + 2, none⟩ = some c2 ∧ w'.cell? ⟨b, off + 3, none⟩ = some c3 ∧ w'.cell? ⟨b, off + 4, none⟩ = some c4 ∧ w'.cell? ⟨b, off + 5, none⟩ = some c5 ∧ w'.cell? ⟨b, off + 6, none⟩ = some d0 ∧ w'.cell? ⟨b, off + 6 + 1, none⟩ = some d1 ∧ w'.cell? ⟨b, off + 6 + 2, none⟩ = some d2 ∧ w'.cell? ⟨b, off + 6 + 3, none⟩ = some d3 ∧ w'.cell? ⟨b, off + 6 + 4, none⟩ = some d4 ∧ w'.cell? ⟨b, off + 6 + 5, none⟩ = some d5) := fun w' h => by
        have key : ∀ g o, g < W.heap.size → w'.cell? ⟨g, o, none⟩ = W.cell? ⟨g, o, none⟩ := fun g o hg => h.cell (p := ⟨g, o, none⟩) hg
        have key2 : ∀ o, W.cell? ⟨b, o, none⟩ = w.cell? ⟨b, o, none⟩ := fun o => hbW.cell (p := ⟨b, o, none⟩) hb
        have hbr : b < W.heap.size := Nat.lt_of_lt_of_le hb hbW.size
        have hwz : w.heap.size < W.heap.size := by rw [hW]; simp
        refine ⟨h, ?_, ?_, ?_, ?_, ?_, ?_, ?_, ?_, ?_, ?_, ?_, ?_, ?_⟩
        · rw [key _ _ hwz, hW]; simp
        · rw [key _ _ hbr, key2]; exact ck0
        · rw [key _ _ hbr, key2]; exact ck1
        · rw [key _ _ hbr, key2]; exact ck2
        · rw [key _ _ hbr, key2]; exact ck3
        · rw [key _ _ hbr, key2]; exact ck4
        · rw [key _ _ hbr, key2]; exact ck5
        · rw [key _ _ hbr, key2]; exact dk0
        · rw [key _ _ hbr, key2]; exact dk1
        · rw [key _ _ hbr, key2]; exact dk2
        · rw [key _ _ hbr, key2]; exact dk3
        · rw [key _ _ hbr, key2]; exact dk4
        · rw [key _ _ hbr, key2]; exact dk5
      have HBW : Hid (Below w.heap.size w W) := hbW
      have hz2 : ¬ 9223372036854775807 < 1 + (Em.str (Em7.text x)).size := by simp only [str_size7]; omega
      have hz3 : ¬ 9223372036854775807 < 1 + (Em.str (Em7.text x)).size + 2 := by simp only [str_size7]; omega
      have hz4 : ¬ 9223372036854775807 < 1 + (Em.str (Em7.text x)).size + 2 + (Em.str (Em7.text y)).size := by simp only [str_size7]; omega
      have hz5 : ¬ 9223372036854775807 < 1 + (Em.str (Em7.text x)).size + 2 + (Em.str (Em7.text y)).size + 1 := by simp only [str_size7]; omega
      have HR : Hid (Em.str R = (⟨#[40]⟩ : ByteArray) ++ Em.str (Em7.text x) ++ (⟨#[44, 32]⟩ : ByteArray) ++ Em.str (Em7.text y) ++ (⟨#[41]⟩ : ByteArray)) := by
        rw [Hid, HRT.out, Em7.textB, if_neg HX0.out, if_neg HX1.out, if_neg HX2.out, if_neg HX3.out, if_neg HX4.out, if_neg HX5.out, if_pos HO.out, Em7.texts_get [x, y] 0 x rfl, Em7.texts_get [x, y] 1 y rfl, ← str_app7, ← str_app7, ← str_app7, ← str_app7]
        rfl
      clear ck0 ck1 ck2 ck3 ck4 ck5 dk0 dk1 dk2 dk3 dk4 dk5 hb hbW
      go_enter Tryd.func10, Tryd.ntmps10
      go_wp2_with fail
      rw [← hW]
      clear hW
      go_region_held (fun w' => Below W.heap.size W w' ∧ w'.cell? ⟨w.heap.size, 5, none⟩ = some (.slice (some ⟨b, off, none⟩) 2 cap) ∧ w'.cell? ⟨b, off, none⟩ = some c0 ∧ w'.cell? ⟨b, off + 1, none⟩ = some c1 ∧ w'.cell? ⟨b, off + 2, none⟩ = some c2 ∧ w'.cell? ⟨b, off + 3, none⟩ = some c3 ∧ w'.cell? ⟨b, off + 4, none⟩ = some c4 ∧ w'.cell? ⟨b, off + 5, none⟩ = some c5 ∧ w'.cell? ⟨b, off + 6, none⟩ = some d0 ∧ w'.cell? ⟨b, off + 6 + 1, none⟩ = some d1 ∧ w'.cell? ⟨b, off + 6 + 2, none⟩ = some d2 ∧ w'.cell? ⟨b, off + 6 + 3, none⟩ = some d3 ∧ w'.cell? ⟨b, off + 6 + 4, none⟩ = some d4 ∧ w'.cell? ⟨b, off + 6 + 5, none⟩ = some d5)
        (first | with_reducible exact HSX.out _ hb2 | with_reducible exact HSX.out _ hb1 | with_reducible exact HSX.out _ (Below.refl _ _).drew)
        (first | (go_at_call 10; have hbq := hb1; clear hbq; refine (HN2.out _ (HBW.out.trans ((Em.held1 (by assumption)).mono HBW.out.size))).mono ?_; rintro e w2 ⟨rfl, hb'⟩; have hb2 : Below W.heap.size W w2 := hb1.trans (hb'.mono hb1.size); clear hb') | (go_at_call 10; refine (HN1.out _ (HBW.out.trans ((Em.held1 (by assumption)).mono HBW.out.size))).mono ?_; rintro e w1 ⟨rfl, hb'⟩; have hb1 : Below W.heap.size W w1 := (Below.refl _ _).drew.trans hb'; clear hb'))
      go_wp2
      go_ret
      exact ⟨congrArg (fun z => Ending.returned (Value.string z)) HR.out.symm, HBW.out.trans (hb2.mono HBW.out.size)⟩
    rw [decide_eq_false h1] at q_pair
    have HX6 : Hid (¬ op = Em5.oPair) := h1
    clear h1
    by_cases h1 : op = Em5.oGet
    · rw [decide_eq_true h1] at q_get
      have HO : Hid (op = Em5.oGet) := h1
      clear h1 
      have hl2 : l.length = 1 := by rw [HO.out, show Em5.kidsN _ = 1 from by decide] at hkn; omega
      obtain ⟨x, rfl⟩ : ∃ x, l = [x] := by
        match l, hl2 with
        | [x], _ => exact ⟨x, rfl⟩
      clear hl2 hkn
      obtain ⟨b, off, rfl, hb, hat⟩ := hk (by simp)
      obtain ⟨c0, c1, c2, c3, c4, c5, ck0, ck1, ck2, ck3, ck4, ck5, cn⟩ := Em5.kidsAt_get _ off 0 x hat rfl
      simp only [Nat.zero_mul, Nat.add_zero] at ck0 ck1 ck2 ck3 ck4 ck5
      have HN1 : Hid (∀ w', Below w.heap.size w w' → Calls Tryd.prog 10 #[.agg #[c0, c1, c2, c3, c4, c5]] w' fun e w2 => e = .returned (.string (Em.str (Em7.text x))) ∧ Below w'.heap.size w' w2) := fun w' h => HI.out x (by simp) _ w' (Em5.isNd_below h x _ cn)
      have hl1 : (Em7.text x).length ≤ 300000 := HTL.out x (by simp)
      have HR : Hid (Em.str R = (⟨#[33]⟩ : ByteArray) ++ Em.str (Em7.text x)) := by
        rw [Hid, HRT.out, Em7.textB, if_neg HX0.out, if_neg HX1.out, if_neg HX2.out, if_neg HX3.out, if_neg HX4.out, if_neg HX5.out, if_neg HX6.out, if_pos HO.out, Em7.texts_get [x] 0 x rfl, ← str_app7]
        rfl
      have hz2 : ¬ 9223372036854775807 < 1 + (Em.str (Em7.text x)).size := by simp only [str_size7]; omega
      clear hat cn HI HTL
      go_enter Tryd.func10, Tryd.ntmps10
      go_wp2_with fail
      refine (HN1.out _ hbA).mono ?_
      rintro e w1 ⟨rfl, hb1⟩
      go_wp2_with fail
      go_ret
      exact ⟨congrArg (fun z => Ending.returned (Value.string z)) HR.out.symm, hbA.trans (hb1.mono hbA.size)⟩
    rw [decide_eq_false h1] at q_get
    have HX7 : Hid (¬ op = Em5.oGet) := h1
    clear h1
    have HR : Hid (Em.str R = (⟨#[40]⟩ : ByteArray) ++ Em.str (Em7.innerB op nm ar (Em7.texts l)) ++ (⟨#[41]⟩ : ByteArray)) := by
      rw [Hid, HRT.out, Em7.textB, if_neg HX0.out, if_neg HX1.out, if_neg HX2.out, if_neg HX3.out, if_neg HX4.out, if_neg HX5.out, if_neg HX6.out, if_neg HX7.out, ← str_app7, ← str_app7]
      rfl
    have h5 := (Em7.kids_five (op := op) (by omega)).2
    have hil : (Em7.innerB op nm ar (Em7.texts l)).length ≤ 1000000 := by
      have h6 := Em7.inner_len (op := op) (nm := nm) (ar := ar) (Em7.texts l) ho5 hn40 ha40 (by rw [Em7.texts_length]; omega)
      have h7 := Em7.tot_big l HTL.out
      omega
    have hz2 : ¬ 9223372036854775807 < 1 + (Em.str (Em7.innerB op nm ar (Em7.texts l))).size := by simp only [str_size7]; omega
    have hz3 : ¬ 9223372036854775807 < 1 + (Em.str (Em7.innerB op nm ar (Em7.texts l))).size + 1 := by simp only [str_size7]; omega
    clear HX0 HX1 HX2 HX3 HX4 HX5 HX6 HX7 hk hkn h5
    go_enter Tryd.func10, Tryd.ntmps10
    go_wp2_with fail
    refine (sinner_any op nm ar n p l HI.out HE.out HTL.out _ _ (Em5.isNd_below hbA _ _ HV.out)).mono ?_
    rintro e w1 ⟨rfl, hb1⟩
    go_wp2_with fail
    go_ret
    exact ⟨congrArg (fun z => Ending.returned (Value.string z)) HR.out.symm, hbA.trans (hb1.mono hbA.size)⟩
end Go.Proofs.YtoekhejpompjlaaDoor

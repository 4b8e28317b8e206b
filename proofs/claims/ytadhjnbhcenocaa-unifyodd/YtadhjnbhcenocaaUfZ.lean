/- What 'Unify' of the program's own Sub does: the walk (package unify). -/
import Derived.Test.YtadhjnbhcenocaaUfY
namespace Go.Proofs.Ytadhjnbhcenocaa
open Go.RowKit Go.Em8 Go.Em9
set_option linter.unusedSimpArgs false
set_option linter.unusedVariables false

set_option maxRecDepth 100000 in
set_option maxHeartbeats 4000000 in
theorem uUnify_any {w : World} {sb : Nat} {fr N : Int} {Mn : Nat → Prop} {len : Nat} {d : Int → Ty} {dom : Int → Prop} (h : Uf w sb fr N Mn len d dom) (hN : 0 ≤ N ∧ N ≤ 900000) {a b : Ty} (ha : Em8.teach a = true) (hb : Em8.teach b = true) (hl : len + a.size + b.size ≤ 100000)
    (hu : (∃ t, Fac t d ∧ tsub t a = tsub t b) ∨ UndoOk) {va vb : Value} (hA : IsTyP (fun k => ¬ Mn k) w a va) (hB : IsTyP (fun k => ¬ Mn k) w b vb) :
    Calls Try.prog 12 #[.pointer (some ⟨sb, 0, none⟩), va, vb] w fun e w' => Kept Mn w w' ∧
      ((e = .returned (.bool true) ∧ ∃ Mn' d', Uf w' sb fr (N + 1) Mn' (len + a.size + b.size) d' (fun z => dom z ∨ tocc z a ∨ tocc z b) ∧ (∀ t, Fac t d' ↔ Fac t d ∧ tsub t a = tsub t b) ∧ (∀ k, Mn' k → Mn k ∨ w.heap.size ≤ k)) ∨
       (e = .returned (.bool false) ∧ ∀ t, ¬ (Fac t d ∧ tsub t a = tsub t b))) := by
  have hM : ∀ k, Mn k → k < w.heap.size := fun k => h.lt
  obtain ⟨K, F, is, cm, sn, E, D, T, mv, M, n, hS, hMn⟩ := h
  subst hMn
  have HS : Hid (UfS w sb fr N len d dom K F is cm sn E D T mv M n) := hS
  have HN : Hid (0 ≤ N ∧ N ≤ 900000) := hN
  have HT : Hid (Em8.teach a = true ∧ Em8.teach b = true ∧ len + a.size + b.size ≤ 100000) := ⟨ha, hb, hl⟩
  have HU : Hid ((∃ t, Fac t d ∧ tsub t a = tsub t b) ∨ UndoOk) := hu
  have HA : Hid (IsTyP (fun k => ¬ MineOf sb K F mv k) w a va ∧ IsTyP (fun k => ¬ MineOf sb K F mv k) w b vb ∧ ∀ k, MineOf sb K F mv k → k < w.heap.size) := ⟨hA, hB, hM⟩
  obtain ⟨p0, p1, pa, pk, pc, rfl⟩ := isTyP_form hA
  obtain ⟨r0, r1, ra, rk, rc, rfl⟩ := isTyP_form hB
  obtain ⟨g1, g2, g3, g4⟩ := hS.sub.get
  obtain ⟨W, hW⟩ : ∃ W, W = (w.alloc (.cells #[.string p0, .int .i64 p1, .slice pa pk pc] 25)).alloc (.cells #[.string r0, .int .i64 r1, .slice ra rk rc] 25) := ⟨_, rfl⟩
  obtain ⟨X, hX⟩ : ∃ X, X = attNew w sb N (.cells #[.string p0, .int .i64 p1, .slice pa pk pc] 25) (.cells #[.string r0, .int .i64 r1, .slice ra rk rc] 25) := ⟨_, rfl⟩
  have bW : Below w.heap.size w W := by rw [hW]; exact ((Below.refl _ _).alloc (Nat.le_refl _) _).alloc (by simp) _
  have zW : W.heap.size = w.heap.size + 2 := by rw [hW]; simp
  have hsl := hS.sub.lt.1
  have q2 : W.cell? ⟨sb, 2, none⟩ = some (.int .i64 N) := by rw [bW.cell (p := ⟨sb, 2, none⟩) hsl]; exact g3
  have qf : W.frozen? ⟨sb, 2, none⟩ = false := by rw [bW.frozen (p := ⟨sb, 2, none⟩) hsl]; exact g4 2
  have HWE : Hid ((w.alloc (.cells #[.string p0, .int .i64 p1, .slice pa pk pc] 25)).alloc (.cells #[.string r0, .int .i64 r1, .slice ra rk rc] 25) = W) := hW.symm
  have HXE : Hid ((W.setCell ⟨sb, 2, none⟩ (.int .i64 (N + 1))).alloc (.cells #[.pointer (some ⟨sb, 0, none⟩), .int .i64 (N + 1), .slice none 0 0, .slice none 0 0] 56) = X) := by rw [Hid, hX, hW]; rfl
  obtain ⟨o1, o2, o3⟩ := att_start hS hX
  have HO : Hid (S9Ok X w.heap.size sb (w.heap.size + 2) fr (N + 1) (.slice none 0 0) [] ⟨F, is, cm, sn, M, mv, .slice none 0 0, [], n, K⟩ ∧ Kept (fun k => k = sb) w X ∧ X.heap.size = w.heap.size + 3) := ⟨o1, o2, o3⟩
  have HX0 : Hid (sb ≠ w.heap.size ∧ sb ≠ w.heap.size + 1) := ⟨by omega, by omega⟩
  have hN0 : 0 ≤ N := hN.1
  have hN1 : N ≤ 900000 := hN.2
  clear hS hN ha hb hl hu hA hB hM hW hX bW g1 g2 g3 g4 o1 o2 o3 
  go_enter Try.func12, Try.ntmps12
  go_upto_region 1 with fail
  rw [HWE.out]
  go_upto_region 5 with fail
  have a0 : X.cell? ⟨w.heap.size, 0, none⟩ = some (.string p0) := by rw [← HXE.out, ← HWE.out]; simp [go_sem, HX0.out.1]
  have a1 : X.cell? ⟨w.heap.size, 1, none⟩ = some (.int .i64 p1) := by rw [← HXE.out, ← HWE.out]; simp [go_sem, HX0.out.1]
  have a2 : X.cell? ⟨w.heap.size, 2, none⟩ = some (.slice pa pk pc) := by rw [← HXE.out, ← HWE.out]; simp [go_sem, HX0.out.1]
  have b0 : X.cell? ⟨w.heap.size + 1, 0, none⟩ = some (.string r0) := by rw [← HXE.out, ← HWE.out]; simp [go_sem, HX0.out.1, HX0.out.2]
  have b1 : X.cell? ⟨w.heap.size + 1, 1, none⟩ = some (.int .i64 r1) := by rw [← HXE.out, ← HWE.out]; simp [go_sem, HX0.out.1, HX0.out.2]
  have b2 : X.cell? ⟨w.heap.size + 1, 2, none⟩ = some (.slice ra rk rc) := by rw [← HXE.out, ← HWE.out]; simp [go_sem, HX0.out.1, HX0.out.2]
  have HB1 : Hid (X.cell? ⟨w.heap.size + 1, 0, none⟩ = some (.string r0) ∧ X.cell? ⟨w.heap.size + 1, 1, none⟩ = some (.int .i64 r1) ∧ X.cell? ⟨w.heap.size + 1, 2, none⟩ = some (.slice ra rk rc)) := ⟨b0, b1, b2⟩
  rw [HXE.out]
  clear HXE HWE zW q2 qf hsl hN0 hN1
  have HK1 : Hid (∀ w', Below X.heap.size X w' → Calls Try.prog 27 #[.pointer (some ⟨w.heap.size + 2, 0, none⟩), .agg #[.string p0, .int .i64 p1, .slice pa pk pc]] w' fun e w'' => ∃ x s', e = .returned (.pointer (some ⟨x, 0, none⟩)) ∧ KeptAs X w'' w.heap.size sb (w.heap.size + 2) fr (N + 1) (.slice none 0 0) [] ⟨F, is, cm, sn, M, mv, .slice none 0 0, [], n, K⟩ s' a x) := fun w' hb => by
    obtain ⟨h1, h2, h3⟩ := HO.out
    refine (ukeep_any w.heap.size sb (w.heap.size + 2) fr (N + 1) (.slice none 0 0) [] mv (by have := HN.out; unfold Em5.I64; omega) (.inl HS.out.sub.lt.1) a HT.out.1 w' _ _ (h1.below hb) (.inl rfl) (far_of HA.out.2.2 HA.out.1 (h2.trans (Q' := fun _ => False) (Kept.of hb) fun _ _ e => e.elim) fun k _ e => .inl e) (by have := hb.size; omega) (by have := HS.out.len; have := HT.out.2.2; simp only; omega)).mono ?_
    rintro e w'' ⟨x, s', he, hk⟩
    exact ⟨x, s', he, hk.from hb⟩
  have HK2 : Hid (∀ w3 s1 x, KeptAs X w3 w.heap.size sb (w.heap.size + 2) fr (N + 1) (.slice none 0 0) [] ⟨F, is, cm, sn, M, mv, .slice none 0 0, [], n, K⟩ s1 a x → Calls Try.prog 27 #[.pointer (some ⟨w.heap.size + 2, 0, none⟩), .agg #[.string r0, .int .i64 r1, .slice ra rk rc]] w3 fun e w'' => ∃ y s', e = .returned (.pointer (some ⟨y, 0, none⟩)) ∧ KeptAs w3 w'' w.heap.size sb (w.heap.size + 2) fr (N + 1) (.slice none 0 0) [] s1 s' b y) := fun w3 s1 x hk1 => by
    obtain ⟨h1, h2, h3⟩ := HO.out
    refine ukeep_any w.heap.size sb (w.heap.size + 2) fr (N + 1) (.slice none 0 0) [] mv (by have := HN.out; unfold Em5.I64; omega) (.inl HS.out.sub.lt.1) b HT.out.2.1 w3 _ _ hk1.ok ?_ (far_of HA.out.2.2 HA.out.2.1 ((h2.wide fun k _ e => .inl e).trans (Q := fun k => k = sb ∨ some k = mv) hk1.kept fun k hk e => ?_) fun k _ e => e) (by have := hk1.kept.size; omega) (by have := hk1.len; have := HS.out.len; have := HT.out.2.2; simp only at *; omega)
    · rcases hk1.ext.mv with e | ⟨-, g, e, hg⟩
      · exact .inl e
      · exact .inr ⟨g, e, by omega⟩
    · rcases e with e | e | e | e
      · exact .inl e
      · exact .inr e
      · omega
      · simp [Value.ownBlock] at e
  have HBX : Hid (∀ w3 s1 x, KeptAs X w3 w.heap.size sb (w.heap.size + 2) fr (N + 1) (.slice none 0 0) [] ⟨F, is, cm, sn, M, mv, .slice none 0 0, [], n, K⟩ s1 a x → w3.cell? ⟨w.heap.size + 1, 0, none⟩ = some (.string r0) ∧ w3.cell? ⟨w.heap.size + 1, 1, none⟩ = some (.int .i64 r1) ∧ w3.cell? ⟨w.heap.size + 1, 2, none⟩ = some (.slice ra rk rc)) := fun w3 s1 x hk1 => by
    obtain ⟨h1, h2, h3⟩ := HO.out
    have key : ∀ o, w3.cell? ⟨w.heap.size + 1, o, none⟩ = X.cell? ⟨w.heap.size + 1, o, none⟩ := fun o => hk1.kept.cell (by omega) (fun e => by
      rcases e with e | e | e | e
      · have := HS.out.sub.lt.1; omega
      · have := (HS.out.sub.lt.2 _ e.symm).1; omega
      · omega
      · simp [Value.ownBlock] at e) o
    rw [key, key, key]; exact HB1.out
  clear HB1
  have d0 : Below X.heap.size X X.drew := (Below.refl _ _).drew
  go_cut [8, 9] from 10 (fun s8 s9 wx => ∃ x y s2, s8 = .pointer (some ⟨x, 0, none⟩) ∧ s9 = .pointer (some ⟨y, 0, none⟩) ∧ Hid (Att2 w wx sb (w.heap.size + 2) fr N len d dom K F is cm sn E D T mv M n s2 x y a b))
  case first =>
    go_region_law (first
      | (go_simp; go_at_call 27; have dq := hk1; clear dq; refine (HK2.out _ _ _ hk1.out).mono ?_; rintro e w4 ⟨y, s2, rfl, hk2⟩; have hk2 : Hid (KeptAs w3 w4 w.heap.size sb (w.heap.size + 2) fr (N + 1) (.slice none 0 0) [] s1 s2 b y) := hk2)
      | (go_simp; go_at_call 27; refine (HK1.out _ d0).mono ?_; rintro e w3 ⟨x, s1, rfl, hk1⟩; obtain ⟨b03, b13, b23⟩ := HBX.out _ _ _ hk1; have hk1 : Hid (KeptAs X w3 w.heap.size sb (w.heap.size + 2) fr (N + 1) (.slice none 0 0) [] ⟨F, is, cm, sn, M, mv, .slice none 0 0, [], n, K⟩ s1 a x) := hk1))
    all_goals
      go_wp2_with fail
      go_meet
      exact ⟨x, y, s2, rfl, rfl, att2_mk HS.out HO.out.2.1 (by have := HO.out.2.2; omega) (by omega) hk1.out hk2.out⟩
  case rest =>
    obtain ⟨x, y, s2, rfl, rfl, HC2⟩ := hcut
    obtain ⟨w4, hw4⟩ : ∃ q, q = wc := ⟨_, rfl⟩
    rw [← hw4] at HC2
    rw [← hw4]
    clear hw4 a0 a1 a2 b0 b1 b2 d0 HK1 HK2 HBX HO
    have HLL : Hid (s2.F.L.length ≤ 100000) := by have := HC2.out.len; have := HT.out.2.2; show _ ≤ _; omega
    have HBL : Hid (w.heap.size ≤ w4.heap.size) := HC2.out.kept.size
    have HMK := umake_any HC2.out.ok.fo HC2.out.cong HC2.out.ends HC2.out.ok.tms HC2.out.leads HC2.out.ok.att (fun k hk => ⟨(HC2.out.ok.sepA k hk).1, (HC2.out.ok.sepA k hk).2.1⟩) HC2.out.ok.kl HC2.out.hx.1 HC2.out.hy.1 HBL.out HLL.out
    go_wp2_with fail
    refine HMK.mono ?_
    rintro e w5 ⟨S, J, is', E', D', jv, hmk, ⟨rfl, hno⟩ | ⟨rfl, rfl⟩⟩
    · have HM : Hid (MkI w4 w5 s2.K s2.F E s2.cm s2.sn w.heap.size sb (w.heap.size + 2) (N + 1) s2.vv (.slice none 0 0) s2.Vl x y S J is' E' D' jv) := hmk
      have HNO : Hid (∀ t, ¬ (Fac t d ∧ tsub t a = tsub t b)) := fun t ht => hno t ⟨(HC2.out.sol t).2 ht.1, by rw [HC2.out.hx.2, HC2.out.hy.2]; exact ht.2⟩
      clear hmk hno HMK
      go_wp2_with fail
      rcases HU.out with ⟨t, ht⟩ | hU
      · exact absurd ht (HNO.out t)
      · refine (HC2.out.undo HT.out.2.2 hU HM.out HM.out.tms (Kept.refl _ _)).mono ?_
        rintro e w7 ⟨rfl, hk⟩
        have HK : Hid (Kept (MineOf sb K F mv) w w7) := hk
        clear hk
        go_wp2_with fail
        go_ret
        exact ⟨HK.out, .inr ⟨rfl, HNO.out⟩⟩
    · have HM : Hid (MkI w4 w5 s2.K s2.F E s2.cm s2.sn w.heap.size sb (w.heap.size + 2) (N + 1) s2.vv (.slice none 0 0) s2.Vl x y [] J is' E' D' jv) := hmk
      have HFI := ufin_any HC2.out.ok.fo HM.out.joins.ends HM.out.tms HM.out.leads HM.out.att HM.out.sepA (fun k hk => Nat.lt_of_lt_of_le (HC2.out.ok.kl k hk) HM.out.kept.size) HM.out.joins.jmem (by have := HM.out.count; have := HLL.out; omega) HC2.out.hx.1 HLL.out (by have := HN.out; omega) (HC2.out.seen HN.out.1) F.L HC2.out.came
      clear hmk HMK
      go_wp2_with fail
      refine HFI.mono ?_
      rintro e w6 ⟨sn', ht, hk, hsn, ⟨rfl, hw⟩ | ⟨rfl, hno⟩⟩
      · have HD := Att2.done HC2.out HN.out.1 HM.out ht hk hsn hw
        have HD : Hid _ := HD
        clear ht hk hsn hw HFI
        go_wp2_with fail
        go_ret
        exact ⟨HD.out.2, .inl ⟨rfl, HD.out.1⟩⟩
      · have HNO : Hid (∀ t, ¬ (Fac t d ∧ tsub t a = tsub t b)) := fun t ht => by
          refine hno t ((HM.out.joins.sol t).2 ⟨(HC2.out.sol t).2 ht.1, by rw [HC2.out.hx.2, HC2.out.hy.2]; exact ht.2⟩).1
        have HTK : Hid (Tms w6 s2.K s2.F is' s2.cm sn' ∧ Kept (fun k => k ∈ s2.F.L) w5 w6) := ⟨ht, hk⟩
        clear ht hk hsn hno HFI
        go_wp2_with fail
        rcases HU.out with ⟨t, ht⟩ | hU
        · exact absurd ht (HNO.out t)
        · refine (HC2.out.undo HT.out.2.2 hU HM.out HTK.out.1 HTK.out.2).mono ?_
          rintro e w7 ⟨rfl, hk⟩
          have HK : Hid (Kept (MineOf sb K F mv) w w7) := hk
          clear hk
          go_wp2_with fail
          go_ret
          exact ⟨HK.out, .inr ⟨rfl, HNO.out⟩⟩
end Go.Proofs.Ytadhjnbhcenocaa

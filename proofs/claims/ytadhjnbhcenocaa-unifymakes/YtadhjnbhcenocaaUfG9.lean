/- Several texts in one: UfZ, UfN, UfW. -/
import Derived.Test.YtadhjnbhcenocaaUfY
import Derived.Test.YtadhjnbhcenocaaUfO
import Derived.Test.YtadhjnbhcenocaaRTypN
namespace Go.Proofs.Ytadhjnbhcenocaa
open Go.RowKit Go.Em8 Go.Em9
set_option linter.unusedSimpArgs false
set_option linter.unusedVariables false

set_option maxRecDepth 100000 in
set_option maxHeartbeats 4000000 in
theorem uUnify_any {w : World} {sb : Nat} {fr N : Int} {Mn : Nat → Prop} {len : Nat} {d : Int → Ty} {dom : Int → Prop} (h : Uf w sb fr N Mn len d dom) (hN : 0 ≤ N ∧ N ≤ 900000) {a b : Ty} (ha : Em8.teach a = true) (hb : Em8.teach b = true) (hl : len + a.size + b.size ≤ 100000)
    (hu : (∃ t, Fac t d ∧ tsub t a = tsub t b) ∨ UndoOk) {va vb : Value} (hA : IsTyP (fun k => ¬ Mn k) w a va) (hB : IsTyP (fun k => ¬ Mn k) w b vb) :
    Calls Try.prog 12 #[.pointer (some ⟨sb, 0, none⟩), va, vb] w fun e w' => Kept Mn w w' ∧
      ((e = .returned (.bool true) ∧ ∃ Mn' d', Uf w' sb fr (N + 1) Mn' (len + a.size + b.size) d' (fun z => dom z ∨ tocc z a ∨ tocc z b) ∧ (∀ t, Fac t d' ↔ Fac t d ∧ tsub t a = tsub t b) ∧ (∀ k, Mn' k → Mn k ∨ w.heap.size ≤ k)) ∨
       (e = .returned (.bool false) ∧ ∀ t, ¬ (Fac t d ∧ tsub t a = tsub t b))) := by
  have hM : ∀ k, Mn k → k < w.heap.size := fun k => h.lt
  obtain ⟨K, F, is, cm, sn, E, D, T, mv, M, n, hS, hMn⟩ := h
  subst hMn
  have HS : Hid (UfS w sb fr N len d dom K F is cm sn E D T mv M n) := hS
  have HN : Hid (0 ≤ N ∧ N ≤ 900000) := hN
  have HT : Hid (Em8.teach a = true ∧ Em8.teach b = true ∧ len + a.size + b.size ≤ 100000) := ⟨ha, hb, hl⟩
  have HU : Hid ((∃ t, Fac t d ∧ tsub t a = tsub t b) ∨ UndoOk) := hu
  have HA : Hid (IsTyP (fun k => ¬ MineOf sb K F mv k) w a va ∧ IsTyP (fun k => ¬ MineOf sb K F mv k) w b vb ∧ ∀ k, MineOf sb K F mv k → k < w.heap.size) := ⟨hA, hB, hM⟩
  obtain ⟨p0, p1, pa, pk, pc, rfl⟩ := isTyP_form hA
  obtain ⟨r0, r1, ra, rk, rc, rfl⟩ := isTyP_form hB
  obtain ⟨g1, g2, g3, g4⟩ := hS.sub.get
  obtain ⟨W, hW⟩ : ∃ W, W = (w.alloc (.cells #[.string p0, .int .i64 p1, .slice pa pk pc] 25)).alloc (.cells #[.string r0, .int .i64 r1, .slice ra rk rc] 25) := ⟨_, rfl⟩
  obtain ⟨X, hX⟩ : ∃ X, X = attNew w sb N (.cells #[.string p0, .int .i64 p1, .slice pa pk pc] 25) (.cells #[.string r0, .int .i64 r1, .slice ra rk rc] 25) := ⟨_, rfl⟩
  have bW : Below w.heap.size w W := by rw [hW]; exact ((Below.refl _ _).alloc (Nat.le_refl _) _).alloc (by simp) _
  have zW : W.heap.size = w.heap.size + 2 := by rw [hW]; simp
  have hsl := hS.sub.lt.1
  have q2 : W.cell? ⟨sb, 2, none⟩ = some (.int .i64 N) := by rw [bW.cell (p := ⟨sb, 2, none⟩) hsl]; exact g3
  have qf : W.frozen? ⟨sb, 2, none⟩ = false := by rw [bW.frozen (p := ⟨sb, 2, none⟩) hsl]; exact g4 2
  have HWE : Hid ((w.alloc (.cells #[.string p0, .int .i64 p1, .slice pa pk pc] 25)).alloc (.cells #[.string r0, .int .i64 r1, .slice ra rk rc] 25) = W) := hW.symm
  have HXE : Hid ((W.setCell ⟨sb, 2, none⟩ (.int .i64 (N + 1))).alloc (.cells #[.pointer (some ⟨sb, 0, none⟩), .int .i64 (N + 1), .slice none 0 0, .slice none 0 0] 56) = X) := by rw [Hid, hX, hW]; rfl
  obtain ⟨o1, o2, o3⟩ := att_start hS hX
  have HO : Hid (S9Ok X w.heap.size sb (w.heap.size + 2) fr (N + 1) (.slice none 0 0) [] ⟨F, is, cm, sn, M, mv, .slice none 0 0, [], n, K⟩ ∧ Kept (fun k => k = sb) w X ∧ X.heap.size = w.heap.size + 3) := ⟨o1, o2, o3⟩
  have HX0 : Hid (sb ≠ w.heap.size ∧ sb ≠ w.heap.size + 1) := ⟨by omega, by omega⟩
  have hN0 : 0 ≤ N := hN.1
  have hN1 : N ≤ 900000 := hN.2
  clear hS hN ha hb hl hu hA hB hM hW hX bW g1 g2 g3 g4 o1 o2 o3 
  go_enter Try.func12, Try.ntmps12
  go_upto_region 1 with fail
  rw [HWE.out]
  go_upto_region 5 with fail
  have a0 : X.cell? ⟨w.heap.size, 0, none⟩ = some (.string p0) := by rw [← HXE.out, ← HWE.out]; simp [go_sem, HX0.out.1]
  have a1 : X.cell? ⟨w.heap.size, 1, none⟩ = some (.int .i64 p1) := by rw [← HXE.out, ← HWE.out]; simp [go_sem, HX0.out.1]
  have a2 : X.cell? ⟨w.heap.size, 2, none⟩ = some (.slice pa pk pc) := by rw [← HXE.out, ← HWE.out]; simp [go_sem, HX0.out.1]
  have b0 : X.cell? ⟨w.heap.size + 1, 0, none⟩ = some (.string r0) := by rw [← HXE.out, ← HWE.out]; simp [go_sem, HX0.out.1, HX0.out.2]
  have b1 : X.cell? ⟨w.heap.size + 1, 1, none⟩ = some (.int .i64 r1) := by rw [← HXE.out, ← HWE.out]; simp [go_sem, HX0.out.1, HX0.out.2]
  have b2 : X.cell? ⟨w.heap.size + 1, 2, none⟩ = some (.slice ra rk rc) := by rw [← HXE.out, ← HWE.out]; simp [go_sem, HX0.out.1, HX0.out.2]
  have HB1 : Hid (X.cell? ⟨w.heap.size + 1, 0, none⟩ = some (.string r0) ∧ X.cell? ⟨w.heap.size + 1, 1, none⟩ = some (.int .i64 r1) ∧ X.cell? ⟨w.heap.size + 1, 2, none⟩ = some (.slice ra rk rc)) := ⟨b0, b1, b2⟩
  rw [HXE.out]
  clear HXE HWE zW q2 qf hsl hN0 hN1
  have HK1 : Hid (∀ w', Below X.heap.size X w' → Calls Try.prog 27 #[.pointer (some ⟨w.heap.size + 2, 0, none⟩), .agg #[.string p0, .int .i64 p1, .slice pa pk pc]] w' fun e w'' => ∃ x s', e = .returned (.pointer (some ⟨x, 0, none⟩)) ∧ KeptAs X w'' w.heap.size sb (w.heap.size + 2) fr (N + 1) (.slice none 0 0) [] ⟨F, is, cm, sn, M, mv, .slice none 0 0, [], n, K⟩ s' a x) := fun w' hb => by
    obtain ⟨h1, h2, h3⟩ := HO.out
    refine (ukeep_any w.heap.size sb (w.heap.size + 2) fr (N + 1) (.slice none 0 0) [] mv (by have := HN.out; unfold Em5.I64; omega) (.inl HS.out.sub.lt.1) a HT.out.1 w' _ _ (h1.below hb) (.inl rfl) (far_of HA.out.2.2 HA.out.1 (h2.trans (Q' := fun _ => False) (Kept.of hb) fun _ _ e => e.elim) fun k _ e => .inl e) (by have := hb.size; omega) (by have := HS.out.len; have := HT.out.2.2; simp only; omega)).mono ?_
    rintro e w'' ⟨x, s', he, hk⟩
    exact ⟨x, s', he, hk.from hb⟩
  have HK2 : Hid (∀ w3 s1 x, KeptAs X w3 w.heap.size sb (w.heap.size + 2) fr (N + 1) (.slice none 0 0) [] ⟨F, is, cm, sn, M, mv, .slice none 0 0, [], n, K⟩ s1 a x → Calls Try.prog 27 #[.pointer (some ⟨w.heap.size + 2, 0, none⟩), .agg #[.string r0, .int .i64 r1, .slice ra rk rc]] w3 fun e w'' => ∃ y s', e = .returned (.pointer (some ⟨y, 0, none⟩)) ∧ KeptAs w3 w'' w.heap.size sb (w.heap.size + 2) fr (N + 1) (.slice none 0 0) [] s1 s' b y) := fun w3 s1 x hk1 => by
    obtain ⟨h1, h2, h3⟩ := HO.out
    refine ukeep_any w.heap.size sb (w.heap.size + 2) fr (N + 1) (.slice none 0 0) [] mv (by have := HN.out; unfold Em5.I64; omega) (.inl HS.out.sub.lt.1) b HT.out.2.1 w3 _ _ hk1.ok ?_ (far_of HA.out.2.2 HA.out.2.1 ((h2.wide fun k _ e => .inl e).trans (Q := fun k => k = sb ∨ some k = mv) hk1.kept fun k hk e => ?_) fun k _ e => e) (by have := hk1.kept.size; omega) (by have := hk1.len; have := HS.out.len; have := HT.out.2.2; simp only at *; omega)
    · rcases hk1.ext.mv with e | ⟨-, g, e, hg⟩
      · exact .inl e
      · exact .inr ⟨g, e, by omega⟩
    · rcases e with e | e | e | e
      · exact .inl e
      · exact .inr e
      · omega
      · simp [Value.ownBlock] at e
  have HBX : Hid (∀ w3 s1 x, KeptAs X w3 w.heap.size sb (w.heap.size + 2) fr (N + 1) (.slice none 0 0) [] ⟨F, is, cm, sn, M, mv, .slice none 0 0, [], n, K⟩ s1 a x → w3.cell? ⟨w.heap.size + 1, 0, none⟩ = some (.string r0) ∧ w3.cell? ⟨w.heap.size + 1, 1, none⟩ = some (.int .i64 r1) ∧ w3.cell? ⟨w.heap.size + 1, 2, none⟩ = some (.slice ra rk rc)) := fun w3 s1 x hk1 => by
    obtain ⟨h1, h2, h3⟩ := HO.out
    have key : ∀ o, w3.cell? ⟨w.heap.size + 1, o, none⟩ = X.cell? ⟨w.heap.size + 1, o, none⟩ := fun o => hk1.kept.cell (by omega) (fun e => by
      rcases e with e | e | e | e
      · have := HS.out.sub.lt.1; omega
      · have := (HS.out.sub.lt.2 _ e.symm).1; omega
      · omega
      · simp [Value.ownBlock] at e) o
    rw [key, key, key]; exact HB1.out
  clear HB1
  have d0 : Below X.heap.size X X.drew := (Below.refl _ _).drew
  go_cut [8, 9] from 10 (fun s8 s9 wx => ∃ x y s2, s8 = .pointer (some ⟨x, 0, none⟩) ∧ s9 = .pointer (some ⟨y, 0, none⟩) ∧ Hid (Att2 w wx sb (w.heap.size + 2) fr N len d dom K F is cm sn E D T mv M n s2 x y a b))
  case first =>
    go_region_law (first
      | (go_simp; go_at_call 27; have dq := hk1; clear dq; refine (HK2.out _ _ _ hk1.out).mono ?_; rintro e w4 ⟨y, s2, rfl, hk2⟩; have hk2 : Hid (KeptAs w3 w4 w.heap.size sb (w.heap.size + 2) fr (N + 1) (.slice none 0 0) [] s1 s2 b y) := hk2)
      | (go_simp; go_at_call 27; refine (HK1.out _ d0).mono ?_; rintro e w3 ⟨x, s1, rfl, hk1⟩; obtain ⟨b03, b13, b23⟩ := HBX.out _ _ _ hk1; have hk1 : Hid (KeptAs X w3 w.heap.size sb (w.heap.size + 2) fr (N + 1) (.slice none 0 0) [] ⟨F, is, cm, sn, M, mv, .slice none 0 0, [], n, K⟩ s1 a x) := hk1))
    all_goals
      go_wp2_with fail
      go_meet
      exact ⟨x, y, s2, rfl, rfl, att2_mk HS.out HO.out.2.1 (by have := HO.out.2.2; omega) (by omega) hk1.out hk2.out⟩
  case rest =>
    obtain ⟨x, y, s2, rfl, rfl, HC2⟩ := hcut
    obtain ⟨w4, hw4⟩ : ∃ q, q = wc := ⟨_, rfl⟩
    rw [← hw4] at HC2
    rw [← hw4]
    clear hw4 a0 a1 a2 b0 b1 b2 d0 HK1 HK2 HBX HO
    have HLL : Hid (s2.F.L.length ≤ 100000) := by have := HC2.out.len; have := HT.out.2.2; show _ ≤ _; omega
    have HBL : Hid (w.heap.size ≤ w4.heap.size) := HC2.out.kept.size
    have HMK := umake_any HC2.out.ok.fo HC2.out.cong HC2.out.ends HC2.out.ok.tms HC2.out.leads HC2.out.ok.att (fun k hk => ⟨(HC2.out.ok.sepA k hk).1, (HC2.out.ok.sepA k hk).2.1⟩) HC2.out.ok.kl HC2.out.hx.1 HC2.out.hy.1 HBL.out HLL.out
    go_wp2_with fail
    refine HMK.mono ?_
    rintro e w5 ⟨S, J, is', E', D', jv, hmk, ⟨rfl, hno⟩ | ⟨rfl, rfl⟩⟩
    · have HM : Hid (MkI w4 w5 s2.K s2.F E s2.cm s2.sn w.heap.size sb (w.heap.size + 2) (N + 1) s2.vv (.slice none 0 0) s2.Vl x y S J is' E' D' jv) := hmk
      have HNO : Hid (∀ t, ¬ (Fac t d ∧ tsub t a = tsub t b)) := fun t ht => hno t ⟨(HC2.out.sol t).2 ht.1, by rw [HC2.out.hx.2, HC2.out.hy.2]; exact ht.2⟩
      clear hmk hno HMK
      go_wp2_with fail
      rcases HU.out with ⟨t, ht⟩ | hU
      · exact absurd ht (HNO.out t)
      · refine (HC2.out.undo HT.out.2.2 hU HM.out HM.out.tms (Kept.refl _ _)).mono ?_
        rintro e w7 ⟨rfl, hk⟩
        have HK : Hid (Kept (MineOf sb K F mv) w w7) := hk
        clear hk
        go_wp2_with fail
        go_ret
        exact ⟨HK.out, .inr ⟨rfl, HNO.out⟩⟩
    · have HM : Hid (MkI w4 w5 s2.K s2.F E s2.cm s2.sn w.heap.size sb (w.heap.size + 2) (N + 1) s2.vv (.slice none 0 0) s2.Vl x y [] J is' E' D' jv) := hmk
      have HFI := ufin_any HC2.out.ok.fo HM.out.joins.ends HM.out.tms HM.out.leads HM.out.att HM.out.sepA (fun k hk => Nat.lt_of_lt_of_le (HC2.out.ok.kl k hk) HM.out.kept.size) HM.out.joins.jmem (by have := HM.out.count; have := HLL.out; omega) HC2.out.hx.1 HLL.out (by have := HN.out; omega) (HC2.out.seen HN.out.1) F.L HC2.out.came
      clear hmk HMK
      go_wp2_with fail
      refine HFI.mono ?_
      rintro e w6 ⟨sn', ht, hk, hsn, ⟨rfl, hw⟩ | ⟨rfl, hno⟩⟩
      · have HD := Att2.done HC2.out HN.out.1 HM.out ht hk hsn hw
        have HD : Hid _ := HD
        clear ht hk hsn hw HFI
        go_wp2_with fail
        go_ret
        exact ⟨HD.out.2, .inl ⟨rfl, HD.out.1⟩⟩
      · have HNO : Hid (∀ t, ¬ (Fac t d ∧ tsub t a = tsub t b)) := fun t ht => by
          refine hno t ((HM.out.joins.sol t).2 ⟨(HC2.out.sol t).2 ht.1, by rw [HC2.out.hx.2, HC2.out.hy.2]; exact ht.2⟩).1
        have HTK : Hid (Tms w6 s2.K s2.F is' s2.cm sn' ∧ Kept (fun k => k ∈ s2.F.L) w5 w6) := ⟨ht, hk⟩
        clear ht hk hsn hno HFI
        go_wp2_with fail
        rcases HU.out with ⟨t, ht⟩ | hU
        · exact absurd ht (HNO.out t)
        · refine (HC2.out.undo HT.out.2.2 hU HM.out HTK.out.1 HTK.out.2).mono ?_
          rintro e w7 ⟨rfl, hk⟩
          have HK : Hid (Kept (MineOf sb K F mv) w w7) := hk
          clear hk
          go_wp2_with fail
          go_ret
          exact ⟨HK.out, .inr ⟨rfl, HNO.out⟩⟩
end Go.Proofs.Ytadhjnbhcenocaa

namespace Go.Proofs.Ytadhjnbhcenocaa
open Go.RowKit Go.Em8 Go.Em9
set_option linter.unusedSimpArgs false
set_option linter.unusedVariables false

/-- Nothing is said. -/
theorem Uf.empty {w : World} {sb : Nat} (h : w.heap[sb]? = some (.cells #[.int .i64 0, .map none, .int .i64 0] 53 (0, 0))) : Uf w sb 0 0 (MineOf sb (fun _ => False) ⟨[], fun _ => tv 0, fun _ => []⟩ none) 0 tv (fun _ => False) := by
  refine ⟨fun _ => False, ⟨[], fun _ => tv 0, fun _ => []⟩, fun _ => none, fun _ => 0, fun _ => 0, id, fun _ => 0, fun _ => tv 0, none, fun _ => none, 0, ⟨⟨by simp, by simp, by simp, by simp⟩, ⟨by simp, by simp, by simp, by simp⟩, by simp [Cong], by simp [TOk], by simp [Tms], ⟨by simp, by simp⟩, by simp, by simp, ⟨h, by simp, by simp⟩, ⟨by simp, by simp⟩, ?_, by simp, by simp, by simp, by simp, by simp, by simp⟩, rfl⟩
  funext x
  rw [ofM_none rfl]
theorem Uf.fresh {w w' : World} {sb : Nat} {fr N : Int} {Mn : Nat → Prop} {len : Nat} {d : Int → Ty} {dom : Int → Prop} (h : Uf w sb fr N Mn len d dom) (hk : Kept (fun k => k = sb) w w') {fr' : Int} (hc : ∀ mv, w.heap[sb]? = some (.cells #[.int .i64 fr, .map mv, .int .i64 N] 53 (0, 0)) → w'.heap[sb]? = some (.cells #[.int .i64 fr', .map mv, .int .i64 N] 53 (0, 0))) : Uf w' sb fr' N Mn len d dom := by
  obtain ⟨K, F, is, cm, sn, E, D, T, mv, M, n, h, rfl⟩ := h
  refine ⟨K, F, is, cm, sn, E, D, T, mv, M, n, ⟨h.fo, h.ends, h.cong, h.tok, h.tms.turn hk (fun b hb e => h.sepS.1 (e ▸ hb)) (fun b hb e => h.sepS.2 (e ▸ hb)), h.leads, fun k hK => Nat.lt_of_lt_of_le (h.kl k hK) hk.size, h.len, ⟨hc mv h.sub.cells, fun mb e => ?_, h.sub.none⟩, h.map, h.d, h.seen, h.came, h.sepS, h.sepM, h.nl, h.dom⟩, rfl⟩
  obtain ⟨D, g1, g2⟩ := h.sub.map mb e
  refine ⟨D, ?_, g2⟩
  obtain ⟨es, clock, hb, F, hs, hD⟩ := g1
  exact ⟨es, clock, by rw [hk.block mb (h.sub.lt.2 mb e).1 (h.sub.lt.2 mb e).2]; exact hb, F, hs, hD⟩
theorem Uf.cells {w : World} {sb : Nat} {fr N : Int} {Mn : Nat → Prop} {len : Nat} {d : Int → Ty} {dom : Int → Prop} (h : Uf w sb fr N Mn len d dom) : ∃ mv, w.heap[sb]? = some (.cells #[.int .i64 fr, .map mv, .int .i64 N] 53 (0, 0)) ∧ sb < w.heap.size := by
  obtain ⟨K, F, is, cm, sn, E, D, T, mv, M, n, h, rfl⟩ := h
  exact ⟨mv, h.sub.cells, h.sub.lt.1⟩
theorem Uf.mine {w : World} {sb : Nat} {fr N : Int} {Mn : Nat → Prop} {len : Nat} {d : Int → Ty} {dom : Int → Prop} (h : Uf w sb fr N Mn len d dom) : Mn sb := by
  obtain ⟨K, F, is, cm, sn, E, D, T, mv, M, n, h, rfl⟩ := h
  exact .inl rfl

set_option maxRecDepth 100000 in
set_option maxHeartbeats 1000000 in
theorem unew_any (w : World) : Calls Try.prog 11 #[] w fun e w' => e = .returned (.pointer (some ⟨w.heap.size, 0, none⟩)) ∧ Below w.heap.size w w' ∧ ∃ Mn, Uf w' w.heap.size 0 0 Mn 0 tv (fun _ => False) ∧ ∀ k, Mn k → k = w.heap.size := by
  go_enter Try.func11, Try.ntmps11
  go_wp2_with fail
  go_ret
  refine ⟨rfl, (Below.refl _ _).alloc (Nat.le_refl _) _, _, Uf.empty (heap_alloc_new w _), fun k hk => ?_⟩
  rcases hk with e | e | e | e
  · exact e
  · simp at e
  · simp at e
  · exact e.elim

set_option maxRecDepth 100000 in
set_option maxHeartbeats 1000000 in
/-- 'Fresh'. -/
theorem ufresh_any {w : World} {sb : Nat} {fr N : Int} {Mn : Nat → Prop} {len : Nat} {d : Int → Ty} {dom : Int → Prop} (h : Uf w sb fr N Mn len d dom) (hN : 0 ≤ fr ∧ fr ≤ 1000000) :
    Calls Try.prog 20 #[.pointer (some ⟨sb, 0, none⟩)] w fun e w' => e = .returned (.agg #[.string (Em.str tVar), .int .i64 fr, .slice none 0 0]) ∧ Uf w' sb (fr + 1) N Mn len d dom ∧ Kept (fun k => k = sb) w w' := by
  obtain ⟨mv, hc, hlt⟩ := h.cells
  have HS : Hid (Uf w sb fr N Mn len d dom) := h
  obtain ⟨W, hW⟩ : ∃ W, W = w.alloc (.cells #[.string ⟨#[]⟩, .int .i64 0, .slice none 0 0] 25) := ⟨_, rfl⟩
  have hcW : W.heap[sb]? = some (.cells #[.int .i64 fr, .map mv, .int .i64 N] 53 (0, 0)) := by rw [hW, heap_alloc_old _ _ hlt]; exact hc
  have c0 : W.cell? ⟨sb, 0, none⟩ = some (.int .i64 fr) := by simp [World.cell?, hcW]
  have f0 : W.frozen? ⟨sb, 0, none⟩ = false := by simp [World.frozen?, hcW]
  have kW : Kept (fun k => k = sb) w W := by rw [hW]; exact (Kept.refl _ w).alloc _
  have zW : W.heap.size = w.heap.size + 1 := by rw [hW]; simp
  obtain ⟨X, hX⟩ : ∃ X, X = W.setCell ⟨sb, 0, none⟩ (.int .i64 (fr + 1)) := ⟨_, rfl⟩
  have hcX : X.heap[sb]? = some (.cells #[.int .i64 (fr + 1), .map mv, .int .i64 N] 53 (0, 0)) := by rw [hX]; exact heap_set9 0 _ hcW
  have kX : Kept (fun k => k = sb) w X := by rw [hX]; exact kW.set sb 0 _ fun _ => rfl
  have hbX : X.heap[w.heap.size]? = W.heap[w.heap.size]? := by rw [hX]; exact Below.heap_setCell _ _ _ _ (by simp; omega)
  have r0 : X.cell? ⟨w.heap.size, 0, none⟩ = some (.string ⟨#[]⟩) := by rw [World.cell?_of_block (w := W) (a := ⟨w.heap.size, 0, none⟩) hbX, hW]; simp
  have r1 : X.cell? ⟨w.heap.size, 1, none⟩ = some (.int .i64 0) := by rw [World.cell?_of_block (w := W) (a := ⟨w.heap.size, 1, none⟩) hbX, hW]; simp
  have r2 : X.cell? ⟨w.heap.size, 2, none⟩ = some (.slice none 0 0) := by rw [World.cell?_of_block (w := W) (a := ⟨w.heap.size, 2, none⟩) hbX, hW]; simp
  have rf : ∀ o, X.frozen? ⟨w.heap.size, o, none⟩ = false := fun o => by rw [World.frozen?_of_block (w := W) (a := ⟨w.heap.size, o, none⟩) hbX, hW]; simp [go_sem]
  have HWE : Hid (w.alloc (.cells #[.string ⟨#[]⟩, .int .i64 0, .slice none 0 0] 25) = W) := hW.symm
  have HXE : Hid (W.setCell ⟨sb, 0, none⟩ (.int .i64 (fr + 1)) = X) := hX.symm
  have HR : Hid (True ∧ Kept (fun k => k = sb) w X) := ⟨trivial, kX⟩
  have HC : Hid (sb < w.heap.size ∧ X.heap[sb]? = some (.cells #[.int .i64 (fr + 1), .map mv, .int .i64 N] 53 (0, 0)) ∧ w.heap[sb]? = some (.cells #[.int .i64 fr, .map mv, .int .i64 N] 53 (0, 0))) := ⟨hlt, hcX, hc⟩
  have hn0 := hN.1
  have hn1 := hN.2
  clear hX hW hcW kW zW hcX kX hbX h hc
  go_enter Try.func20, Try.ntmps20
  go_upto_region 1 with fail
  rw [HWE.out]
  go_upto_region 5 with fail
  rw [HXE.out]
  clear c0 f0
  go_wp2_with fail
  refine bodyPost_ret (v := .agg #[.string (Em.str tVar), .int .i64 fr, .slice none 0 0]) (by simp [results, Try.results20, go_sem, r0, r1, r2]; try rfl) rfl ?_
  have K3 : Kept (fun k => k = sb) w (((X.setCell ⟨w.heap.size, 0, none⟩ (.string (Em.str tVar))).setCell ⟨w.heap.size, 1, none⟩ (.int .i64 fr)).setCell ⟨w.heap.size, 2, none⟩ (.slice none 0 0)) :=
    ((HR.out.2.set _ 0 _ fun h => absurd h (by omega)).set _ 1 _ fun h => absurd h (by omega)).set _ 2 _ fun h => absurd h (by omega)
  refine ⟨rfl, HS.out.fresh K3 fun mv' h' => ?_, K3⟩
  obtain ⟨g1, g2, g3⟩ := HC.out
  rw [g3] at h'
  simp only [Option.some.injEq, Obj.cells.injEq, Array.mk.injEq, List.cons.injEq, Value.map.injEq, true_and, and_true] at h'
  rw [Below.heap_setCell _ _ _ _ (by simp; omega), Below.heap_setCell _ _ _ _ (by simp; omega), Below.heap_setCell _ _ _ _ (by simp; omega), g2, h']
end Go.Proofs.Ytadhjnbhcenocaa

namespace Go.Proofs.Ytadhjnbhcenocaa
open Go.RowKit Go.Em8 Go.Em9
set_option linter.unusedSimpArgs false
set_option linter.unusedVariables false

set_option maxRecDepth 100000 in
set_option maxHeartbeats 1000000 in
theorem rtTc_any (op : ByteArray) (a : Option Addr) (n cap : Nat) (w : World) :
    Calls Try.prog 25 #[.string op, .slice a n cap] w fun e w' => e = .returned (.agg #[.string op, .int .i64 0, .slice a n cap]) ∧ Below w.heap.size w w' := by
  go_enter Try.func25, Try.ntmps25
  go_wp2
  refine bodyPost_ret (v := .agg #[.string op, .int .i64 0, .slice a n cap]) (by simp [results, Try.results25, go_sem]) rfl ⟨rfl, (Below.refl _ _).alloc (Nat.le_refl _) _⟩
theorem isTyP_leaf (P : Nat → Prop) (w : World) {op : List Int} {n : Int} (ho : Em5.Txt op) (hn : Em5.I64 n) : IsTyP P w (.mk op n []) (.agg #[.string (Em.str op), .int .i64 n, .slice none 0 0]) := by
  unfold IsTyP
  exact ⟨none, 0, rfl, ho, hn, by simp, by simp, by simp⟩
/-- A type of one kid, laid into new memory. -/
theorem isTyP_one {P : Nat → Prop} {w : World} {op : List Int} {x : Ty} {c0 c1 c2 : Value} (ho : Em5.Txt op) (hx : IsTyP P w x (.agg #[c0, c1, c2])) (hP : P w.heap.size) (t : TypeId) : IsTyP P (w.alloc (.cells #[c0, c1, c2] t)) (.mk op 0 [x]) (.agg #[.string (Em.str op), .int .i64 0, .slice (some ⟨w.heap.size, 0, none⟩) 1 1]) := by
  have hb : Below w.heap.size w (w.alloc (.cells #[c0, c1, c2] t)) := (Below.refl _ _).alloc (Nat.le_refl _) _
  unfold IsTyP
  refine ⟨_, 1, rfl, ho, by unfold Em5.I64; decide, by simp, by simp, fun _ => ⟨w.heap.size, 0, rfl, by simp, hP, ?_⟩⟩
  unfold TysAtP TysAtP
  exact ⟨⟨c0, c1, c2, by simp, by simp, by simp, isTyP_keep hb.size (fun k hp hl => ⟨hb.block k hl, hp⟩) _ _ hx⟩, trivial⟩
theorem isTyP_bel {P : Nat → Prop} {w w' : World} {t : Ty} {v : Value} (h : IsTyP P w t v) (hb : Below w.heap.size w w') : IsTyP P w' t v := isTyP_keep hb.size (fun k hp hl => ⟨hb.block k hl, hp⟩) _ _ h

def k9A : Ty := .mk tList 0 [tv 0]
def k9B : Ty := .mk tList 0 [.mk tInt 0 []]
theorem k9_teach : Em8.teach k9A = true ∧ Em8.teach k9B = true ∧ Em8.teach (tv 0) = true := by decide +kernel
theorem k9_size : k9A.size = 2 ∧ k9B.size = 2 := by decide +kernel
theorem k9_could : ∃ t, Fac t tv ∧ tsub t k9A = tsub t k9B := ⟨fun _ => .mk tInt 0 [], fun x => tsub_tv _ _, by
  unfold k9A k9B
  rw [tsub_else _ (by decide), tsub_else _ (by decide)]
  simp only [List.map_cons, List.map_nil]
  rw [tsub_tv, tsub_else _ (by decide)]; rfl⟩
theorem k9_then {d : Int → Ty} (hd : Fac d d) (h : ∀ t, Fac t d ↔ Fac t tv ∧ tsub t k9A = tsub t k9B) : tsub d (tv 0) = .mk tInt 0 [] := by
  have := ((h d).1 hd).2
  unfold k9A k9B at this
  rw [tsub_else d (by decide), tsub_else d (by decide)] at this
  simp only [List.map_cons, List.map_nil, Ty.mk.injEq, List.cons.injEq, and_true, true_and] at this
  rw [this, tsub_else d (by decide)]
  rfl

set_option maxRecDepth 100000 in
set_option maxHeartbeats 4000000 in
theorem known9_any (w : World) : Calls Try.prog 14 #[] w fun e w' => e = .returned (.bool true) ∧ Below w.heap.size w w' := by
  go_enter Try.func14, Try.ntmps14
  go_wp2_with fail
  refine (unew_any w).mono ?_
  rintro e w1 ⟨rfl, hb1, Mn, hU1, hMn⟩
  have HB1 : Hid (Below w.heap.size w w1) := hb1
  have HM : Hid (∀ k, Mn k → k = w.heap.size) := hMn
  have HFR := ufresh_any hU1 ⟨by omega, by omega⟩
  clear hb1 hMn hU1
  go_wp2_with fail
  refine HFR.mono ?_
  rintro e w2 ⟨rfl, hU2, hk2⟩
  have HU2 : Hid (Uf w2 w.heap.size (0 + 1) 0 Mn 0 tv fun _ => False) := hU2
  have HB2 : Hid (Below w.heap.size w w2 ∧ w.heap.size < w2.heap.size) := ⟨HB1.out.trans (hk2.below HB1.out.size fun b hb e => by omega), by have := hU2.lt hU2.mine; exact this⟩
  clear hk2 hU2 HFR HB1
  obtain ⟨X2, hX2⟩ : ∃ X, X = w2.alloc (.cells #[.string (Em.str tVar), .int .i64 0, .slice none 0 0] 25) := ⟨_, rfl⟩
  obtain ⟨X3, hX3⟩ : ∃ X, X = X2.alloc (.cells #[.string (Em.str tVar), .int .i64 0, .slice none 0 0] 25) := ⟨_, rfl⟩
  have bX2 : Below w2.heap.size w2 X2 := by rw [hX2]; exact (Below.refl _ _).alloc (Nat.le_refl _) _
  have zX2 : X2.heap.size = w2.heap.size + 1 := by rw [hX2]; simp
  have bX3 : Below X2.heap.size X2 X3 := by rw [hX3]; exact (Below.refl _ _).alloc (Nat.le_refl _) _
  have k0 : X2.cell? ⟨w2.heap.size, 0, none⟩ = some (.string (Em.str tVar)) := by rw [hX2]; simp
  have k1 : X2.cell? ⟨w2.heap.size, 1, none⟩ = some (.int .i64 0) := by rw [hX2]; simp
  have k2 : X2.cell? ⟨w2.heap.size, 2, none⟩ = some (.slice none 0 0) := by rw [hX2]; simp
  have HK : Hid (X2.cell? ⟨w2.heap.size, 0, none⟩ = some (.string (Em.str tVar)) ∧ X2.cell? ⟨w2.heap.size, 1, none⟩ = some (.int .i64 0) ∧ X2.cell? ⟨w2.heap.size, 2, none⟩ = some (.slice none 0 0)) := ⟨k0, k1, k2⟩
  have DA : Hid (IsTyP (fun k => ¬ Mn k) X3 k9A (.agg #[.string (Em.str tList), .int .i64 0, .slice (some ⟨X2.heap.size, 0, none⟩) 1 1])) := by
    rw [Hid, hX3]
    exact isTyP_one ⟨by decide, by decide⟩ (isTyP_leaf _ _ ⟨by decide, by decide⟩ (by unfold Em5.I64; decide)) (fun h => by have := HM.out _ h; have := HB2.out.2; omega) _
  have HX : Hid (Below w2.heap.size w2 X2 ∧ Below w2.heap.size w2 X3 ∧ Below X2.heap.size X2 X3 ∧ X2.heap.size = w2.heap.size + 1) := ⟨bX2, bX2.trans (bX3.mono bX2.size), bX3, zX2⟩
  have HX2 : Hid (w2.alloc (.cells #[.string (Em.str tVar), .int .i64 0, .slice none 0 0] 25) = X2) := hX2.symm
  have HX3 : Hid (X2.alloc (.cells #[.string (Em.str tVar), .int .i64 0, .slice none 0 0] 25) = X3) := hX3.symm
  have HZ : Hid (w2.heap.size + 1 = X2.heap.size) := zX2.symm
  clear hX2 hX3 bX2 bX3 zX2
  go_upto_region 5 with fail
  rw [HX2.out]
  go_wp2_with fail
  rw [HX3.out]
  refine (rtTc_any _ _ _ _ _).mono ?_
  rintro e w3 ⟨rfl, hb3⟩
  have HB3 : Hid (Below X3.heap.size X3 w3) := hb3
  clear hb3 k0 k1 k2
  go_wp2_with fail
  refine (rtTc_any _ _ _ _ _).mono ?_
  rintro e w4 ⟨rfl, hb4⟩
  have HB4 : Hid (Below w3.heap.size w3 w4) := hb4
  clear hb4
  obtain ⟨X4, hX4⟩ : ∃ X, X = w4.alloc (.cells #[.string ⟨#[105, 110, 116]⟩, .int .i64 0, .slice none 0 0] 25) := ⟨_, rfl⟩
  have HX4 : Hid (w4.alloc (.cells #[.string ⟨#[105, 110, 116]⟩, .int .i64 0, .slice none 0 0] 25) = X4) := hX4.symm
  have HY : Hid (Below X3.heap.size X3 w4) := HB3.out.trans (HB4.out.mono HB3.out.size)
  have DB : Hid (IsTyP (fun k => ¬ Mn k) X4 k9B (.agg #[.string (Em.str tList), .int .i64 0, .slice (some ⟨w4.heap.size, 0, none⟩) 1 1])) := by
    rw [Hid, hX4]
    exact isTyP_one ⟨by decide, by decide⟩ (isTyP_leaf _ _ ⟨by decide, by decide⟩ (by unfold Em5.I64; decide)) (fun h => by have := HM.out _ h; have := HB2.out.2; have := HX.out.2.1.size; have := HY.out.size; omega) _
  have HB5 : Hid (Below X3.heap.size X3 X4) := by
    rw [Hid, hX4]; exact HY.out.alloc HY.out.size _
  clear hX4
  go_wp2_with fail
  rw [HX4.out]
  refine (rtTc_any _ _ _ _ _).mono ?_
  rintro e w5 ⟨rfl, hb5⟩
  have HB6 : Hid (Below X3.heap.size X3 w5) := HB5.out.trans (hb5.mono HB5.out.size)
  have DB5 : Hid (IsTyP (fun k => ¬ Mn k) w5 k9B (.agg #[.string (Em.str tList), .int .i64 0, .slice (some ⟨w4.heap.size, 0, none⟩) 1 1])) := isTyP_bel DB.out hb5
  have DA5 : Hid (IsTyP (fun k => ¬ Mn k) w5 k9A (.agg #[.string (Em.str tList), .int .i64 0, .slice (some ⟨X2.heap.size, 0, none⟩) 1 1])) := isTyP_bel DA.out HB6.out
  have HU5 : Hid (Uf w5 w.heap.size (0 + 1) 0 Mn 0 tv fun _ => False) := HU2.out.below (HX.out.2.1.trans (HB6.out.mono HX.out.2.1.size))
  have HUN := uUnify_any HU5.out ⟨by omega, by omega⟩ k9_teach.1 k9_teach.2.1 (by rw [k9_size.1, k9_size.2]; decide) (.inl k9_could) DA5.out DB5.out
  clear hb5
  go_wp2_with fail
  refine HUN.mono ?_
  rintro e w6 ⟨hk6, ⟨rfl, Mn', d', hU6, hf6, -⟩ | ⟨rfl, hno⟩⟩
  · have HO := uOf_any (some w.heap.size) d' (tv 0) k9_teach.2.2 (.agg #[.string (Em.str tVar), .int .i64 0, .slice none 0 0]) w6 (isTyP_is _ _ (isTyP_leaf (fun _ => True) w6 ⟨by decide, by decide⟩ (by unfold Em5.I64; decide))) (hU6.ready (by rw [k9_size.1, k9_size.2]; decide))
    have HT : Hid (tsub d' (tv 0) = .mk tInt 0 []) := k9_then hU6.fac hf6
    have b6 : ∀ o, w6.cell? ⟨w2.heap.size, o, none⟩ = X2.cell? ⟨w2.heap.size, o, none⟩ := fun o => by
      have h1 := HX.out.2.2.2
      have h2 := HX.out.2.2.1.size
      have h3 := HB6.out.size
      rw [hk6.cell (by omega) (fun h => by have := HM.out _ h; have := HB2.out.2; omega) o, HB6.out.cell (p := ⟨w2.heap.size, o, none⟩) (by simp only; omega), HX.out.2.2.1.cell (p := ⟨w2.heap.size, o, none⟩) (by simp only; omega)]
    have k0 := (b6 0).trans HK.out.1
    have k1 := (b6 1).trans HK.out.2.1
    have k2 := (b6 2).trans HK.out.2.2
    have HB7 : Hid (Below w.heap.size w w6) := by
      have h1 := HX.out.2.1
      have b5 : Below w.heap.size w w5 := HB2.out.1.trans ((h1.trans (HB6.out.mono h1.size)).mono HB2.out.1.size)
      exact b5.trans (hk6.below b5.size fun b hb h => by have := HM.out _ h; omega)
    clear hk6 hU6 hf6 b6 HUN
    rw [ptr_some] at HO
    go_wp2_with fail
    refine HO.mono ?_
    rintro e w7 ⟨u, rfl, hu, hb7⟩
    rw [HT.out] at hu
    unfold IsTyP at hu
    obtain ⟨ua, uc, rfl, -⟩ := hu
    have HB8 : Hid (Below w.heap.size w w7) := HB7.out.trans (hb7.mono HB7.out.size)
    clear hb7 HO k0 k1 k2
    have hfd : Sem.run Try.prog (Instr.field 25 (.agg #[.string (Em.str tInt), .int .i64 0, .slice ua 0 uc]) 0) w7 = .ok (.string (Em.str tInt)) w7 := by kernel_rfl
    have hq : ((Em.str tInt).toList == [105, 110, 116]) = true := (Em5.str_eq (by decide) _).trans (by decide)
    go_wp2_with fail
    go_ret
    exact ⟨by first | rfl | simp, HB8.out⟩
  · obtain ⟨t, ht⟩ := k9_could
    exact absurd ht (hno t)
end Go.Proofs.Ytadhjnbhcenocaa

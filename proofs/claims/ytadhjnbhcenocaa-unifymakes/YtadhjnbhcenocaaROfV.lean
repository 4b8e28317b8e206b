/- What the document's own 'Of' (of a Sub) makes of a var. -/
import Derived.Test.YtadhjnbhcenocaaRTypM
import Derived.Test.YtadhjnbhcenocaaMath9d
import Derived.Test.YtadhjnbhcenocaaTyV
namespace Go.Proofs.Ytadhjnbhcenocaa
open Go.RowKit Go.Em8 Go.Em9
set_option linter.unusedSimpArgs false
set_option linter.unusedVariables false

/-- In the world w the block sb is a Sub that says D: what its two rows hold. -/
def SubR (w : World) (sb : Nat) (D : Said) : Prop :=
  ∃ va vc ta tc, w.cell? ⟨sb, 0, none⟩ = some (.slice va D.length vc) ∧ w.cell? ⟨sb, 1, none⟩ = some (.slice ta D.length tc) ∧ D.length ≤ 1000000 ∧
    (0 < D.length → ∃ b off b' off', va = some ⟨b, off, none⟩ ∧ b < w.heap.size ∧ ta = some ⟨b', off', none⟩ ∧ b' < w.heap.size ∧ (∀ (j : Nat) (p : Int × Ty), D[j]? = some p → w.cell? ⟨b, off + j, none⟩ = some (.int .i64 p.1)) ∧ TysAt w b' off' (D.map (·.2)))
theorem SubR.lt {w : World} {sb : Nat} {D : Said} (h : SubR w sb D) : sb < w.heap.size := by
  obtain ⟨va, vc, ta, tc, h0, -⟩ := h
  exact Em.cell_lt h0
theorem SubR.below {w w' : World} {sb : Nat} {D : Said} (h : SubR w sb D) (hb : Below w.heap.size w w') : SubR w' sb D := by
  have hlt := h.lt
  obtain ⟨va, vc, ta, tc, h0, h1, hl, hk⟩ := h
  refine ⟨va, vc, ta, tc, by rw [hb.cell (p := ⟨sb, 0, none⟩) hlt]; exact h0, by rw [hb.cell (p := ⟨sb, 1, none⟩) hlt]; exact h1, hl, fun hp => ?_⟩
  obtain ⟨b, off, b', off', e1, e2, e3, e4, e5, e6⟩ := hk hp
  refine ⟨b, off, b', off', e1, Nat.lt_of_lt_of_le e2 hb.size, e3, Nat.lt_of_lt_of_le e4 hb.size, fun j p hj => ?_, tysAt_mk _ off' fun j t hj => ?_⟩
  · rw [hb.cell (p := ⟨b, off + j, none⟩) e2]; exact e5 j p hj
  · obtain ⟨c0, c1, c2, k0, k1, k2, kn⟩ := tysAt_get _ off' j t e6 hj
    have key : ∀ o, w'.cell? ⟨b', o, none⟩ = w.cell? ⟨b', o, none⟩ := fun o => hb.cell (p := ⟨b', o, none⟩) e4
    exact ⟨c0, c1, c2, by rw [key]; exact k0, by rw [key]; exact k1, by rw [key]; exact k2, isTy_below hb t _ kn⟩

/-- What Of answers of a type. -/
abbrev OfOk (D : Said) (sb : Nat) (T : Ty) : Prop := ∀ (v : Value) (w : World), IsTy w T v → SubR w sb D →
  Calls Try.prog 19 #[.pointer (some ⟨sb, 0, none⟩), v] w fun e w' => ∃ u, e = .returned u ∧ IsTyP (fun b => w.heap.size ≤ b) w' (tsub (ofD D) T) u ∧ Below w.heap.size w w'

set_option maxRecDepth 100000 in
set_option maxHeartbeats 2000000 in
theorem rOf_var (D : Said) (hD : Em9.Good D) (sb : Nat) (n : Int) (hrec : ∀ (i : Nat) (u : Ty), D[i]? = some (n, u) → OfOk D sb u) : OfOk D sb (.mk tVar n []) := by
  intro v w hv hS
  have HREC : Hid (∀ (i : Nat) (u : Ty), D[i]? = some (n, u) → OfOk D sb u) := hrec
  have HGD : Hid (Em9.Good D) := hD
  unfold IsTy at hv
  obtain ⟨a, cap, rfl, t1, i1, hc1, hc2, -⟩ := hv
  simp only [List.length_nil] at hc1 ⊢
  rw [tsub_var (ofD D) rfl]
  have HI1 : Hid (Em5.I64 n ∧ cap ≤ 9223372036854775807) := ⟨i1, hc2⟩
  have hq : ((Em.str tVar).toList == [118, 97, 114]) = true := by rw [Em5.str_eq t1.1]; rfl
  obtain ⟨W, hW⟩ : ∃ W, W = (w.alloc (.cells #[.string (Em.str tVar), .int .i64 n, .slice a 0 cap] 25)).alloc (.cells #[.string ⟨#[]⟩, .int .i64 0, .slice none 0 0] 25) := ⟨_, rfl⟩
  have hWb : Below w.heap.size w W := by rw [hW]; exact ((Below.refl _ _).alloc (Nat.le_refl _) _).alloc (by simp) _
  have hWz : W.heap.size = w.heap.size + 2 := by rw [hW]; simp
  have k0 : W.cell? ⟨w.heap.size, 0, none⟩ = some (.string (Em.str tVar)) := by rw [hW]; simp
  have k1 : W.cell? ⟨w.heap.size, 1, none⟩ = some (.int .i64 n) := by rw [hW]; simp
  have k2 : W.cell? ⟨w.heap.size, 2, none⟩ = some (.slice a 0 cap) := by rw [hW]; simp
  have q0 : W.cell? ⟨w.heap.size + 1, 0, none⟩ = some (.string ⟨#[]⟩) := by rw [hW]; simp
  have q1 : W.cell? ⟨w.heap.size + 1, 1, none⟩ = some (.int .i64 0) := by rw [hW]; simp
  have q2 : W.cell? ⟨w.heap.size + 1, 2, none⟩ = some (.slice none 0 0) := by rw [hW]; simp
  have fq : ∀ o, W.frozen? ⟨w.heap.size + 1, o, none⟩ = false := by intro o; rw [hW]; simp [go_sem]
  have hSW := hS.below hWb
  have HS : Hid (SubR W sb D) := hSW
  obtain ⟨va, vc, ta, tc, s0, s1, hl, hk⟩ := hSW
  have HK : Hid (0 < D.length → ∃ b off b' off', va = some ⟨b, off, none⟩ ∧ b < W.heap.size ∧ ta = some ⟨b', off', none⟩ ∧ b' < W.heap.size ∧ (∀ (j : Nat) (p : Int × Ty), D[j]? = some p → W.cell? ⟨b, off + j, none⟩ = some (.int .i64 p.1)) ∧ TysAt W b' off' (D.map (·.2))) := hk
  have HWB : Hid (Below w.heap.size w W ∧ W.heap.size = w.heap.size + 2) := ⟨hWb, hWz⟩
  have HWE : Hid ((w.alloc (.cells #[.string (Em.str tVar), .int .i64 n, .slice a 0 cap] 25)).alloc (.cells #[.string ⟨#[]⟩, .int .i64 0, .slice none 0 0] 25) = W) := hW.symm
  clear hS hk hW t1 i1 hrec hD hWb hWz
  go_enter Try.func19, Try.ntmps19
  go_upto_region 1 with fail
  rw [HWE.out]
  clear HWE
  go_wp2_with fail
  go_loopw [5] (fun i wr => ∃ j q : Nat, j ≤ D.length ∧ i = .int .i64 j ∧ wr = W.drewN q ∧ Hid (∀ (k : Nat) p, k < j → D[k]? = some p → p.1 ≠ n)) (fun i _ => D.length - (intOf i).toNat)
  case atStart => exact ⟨0, 0, Nat.zero_le _, rfl, rfl, fun k p h => by omega⟩
  case round =>
    obtain ⟨j, q, hj, rfl, rfl, HD⟩ := hrel
    by_cases hlt : j < D.length
    · obtain ⟨b, off, b', off', rfl, hb, rfl, hb', hlc, hat⟩ := HK.out (by omega)
      obtain ⟨⟨m, t⟩, hm⟩ : ∃ p, D[j]? = some p := ⟨_, List.getElem?_eq_getElem hlt⟩
      have hcm : W.cell? ⟨b, off + j, none⟩ = some (.int .i64 m) := hlc j (m, t) hm
      have hj0 : (0 : Int) ≤ (j : Int) := by omega
      have hjl : (j : Int) < (D.length : Int) := by omega
      have HM : Hid (D[j]? = some (m, t)) := hm
      have htm : (D.map (·.2))[j]? = some t := by rw [List.getElem?_map, hm]; rfl
      clear hlc hm
      by_cases he : m = n
      · subst he
        have hqq : (m == m) = true := by simp
        obtain ⟨a', cap', m0, m1, m2, kn⟩ := ty_get hat htm
        have HN : Hid (IsTy W t (.agg #[.string (Em.str t.op), .int .i64 t.n, .slice a' t.kids.length cap'])) := kn
        have HR : Hid (ofD D m = tsub (ofD D) t) := HGD.out.key (List.mem_of_getElem? HM.out)
        clear kn hat htm
        go_wp2_with fail
        go_quiet (fail)
        go_wp2_with fail
        have bq : Below W.heap.size W (W.drewN (q + nq)) := Em.below_drewN (Below.refl _ _) _
        refine (HREC.out j t HM.out _ _ (isTy_below bq _ _ HN.out) (HS.out.below bq)).mono ?_
        rintro e w3 ⟨x3, rfl, hx3, hb3⟩
        obtain ⟨z0, z1, za, zk, zc, rfl⟩ := isTyP_form hx3
        have hb3' : Below W.heap.size W w3 := bq.trans hb3
        have key : ∀ o, w3.cell? ⟨w.heap.size + 1, o, none⟩ = W.cell? ⟨w.heap.size + 1, o, none⟩ := fun o => hb3'.cell (p := ⟨w.heap.size + 1, o, none⟩) (by have := HWB.out.2; simp only; omega)
        have fq3 : ∀ o, w3.frozen? ⟨w.heap.size + 1, o, none⟩ = false := fun o => by rw [hb3'.frozen (p := ⟨w.heap.size + 1, o, none⟩) (by have := HWB.out.2; simp only; omega)]; exact fq o
        rw [← key] at q0 q1 q2
        have HX3 : Hid (IsTyP (fun b => W.heap.size ≤ b) w3 (tsub (ofD D) t) (.agg #[.string z0, .int .i64 z1, .slice za zk zc]) ∧ Below w.heap.size w w3) := ⟨hx3, HWB.out.1.trans (hb3'.mono HWB.out.1.size)⟩
        clear hx3 hb3 hb3' key bq m0 m1 m2 k0 k1 k2 s0 s1 hcm fq
        go_wp2
        refine bodyPost_ret (v := .agg #[.string z0, .int .i64 z1, .slice za zk zc]) (by simp [results, Try.results19, go_sem, q0, q1, q2]) rfl ⟨_, rfl, ?_, ?_⟩
        · rw [HR.out]
          have hz := HWB.out.2
          refine isTyP_keep (by simp) (fun x hp hl => ⟨?_, by omega⟩) _ _ HX3.out.1
          have hne : ¬ x = w.heap.size + 1 := by omega
          rw [Below.heap_setCell _ _ _ _ (by simp; exact hne), Below.heap_setCell _ _ _ _ (by simp; exact hne), Below.heap_setCell _ _ _ _ (by simp; exact hne)]
        · exact below_set3 (g := w.heap.size + 1) HX3.out.2 (by omega) _ _ _
      · have hqq : (m == n) = false := by rw [beq_eq_false_iff_ne]; exact he
        have HE : Hid (m ≠ n) := he
        clear he hat htm
        go_wp2_with fail
        go_quiet (fail)
        go_wp2
        go_roundw
        case rel =>
          refine ⟨j + 1, q + nq, by omega, by go_num, rfl, fun k p hk hp => ?_⟩
          by_cases hkj : k = j
          · subst hkj; rw [HM.out] at hp; cases hp; exact HE.out
          · exact HD.out k p (by omega) hp
        case measure => simp [intOf]; omega
    · have HR : Hid (ofD D n = tv n) := by
        refine HGD.out.none fun p hp => ?_
        obtain ⟨k, hk⟩ := List.mem_iff_getElem?.1 hp
        exact HD.out k p (by have := (List.getElem?_eq_some_iff.1 hk).1; omega) hk
      go_wp2
      refine bodyPost_ret (v := .agg #[.string (Em.str tVar), .int .i64 n, .slice a 0 cap]) (by simp [results, Try.results19, go_sem, q0, q1, q2]) rfl ⟨_, rfl, ?_, ?_⟩
      · rw [HR.out]
        unfold tv IsTyP
        exact ⟨a, cap, rfl, ⟨by decide, by decide⟩, HI1.out.1, by simp, HI1.out.2, by simp⟩
      · exact below_set3 (g := w.heap.size + 1) (Em.below_drewN HWB.out.1 q) (by omega) _ _ _
end Go.Proofs.Ytadhjnbhcenocaa

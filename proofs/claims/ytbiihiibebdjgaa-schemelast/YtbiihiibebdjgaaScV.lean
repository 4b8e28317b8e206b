/- slices.Sorted(slices.Values(x)) of ints (package scheme). -/
import Derived.Test.YtbiihiibebdjgaaScA
import Derived.Test.YtbiihiibebdjgaaRngS
namespace Go.Proofs.Ytbiihiibebdjgaa
open Go.RowKit Go.Shelf Go.Sort
set_option linter.unusedSimpArgs false
set_option linter.unusedVariables false
attribute [local go_sem] Oper.semAt_some

/-- slices.Values: a function over one new block, which holds the slice. -/
theorem svals_any (a : Option Addr) (k c : Nat) (w : World) : Calls Try.prog 27 #[.slice a k c] w fun e w' =>
    e = .returned (.func (.func 40) #[] #[.pointer (some ⟨w.heap.size, 0, none⟩)]) ∧ w' = w.alloc (.cells #[.slice a k c] 29) := by
  go_enter Try.func27, Try.ntmps27
  go_wp2
  go_ret
  exact ⟨rfl, rfl⟩

set_option maxRecDepth 100000 in
set_option maxHeartbeats 2000000 in
/-- The function that it makes. -/
theorem sval1_in (F : Fence) (n : Nat) (hF : F.fn 40) (hro : F.round = none) (hn : 1 ≤ n) (l bx c : Nat) (a : Option Addr) (L : List Int) (hlen : L.length ≤ 1000000) (J : Nat → World → Prop) (Jx : World → Prop)
    (hJ : ∀ k W, J k W → W.cell? ⟨bx, 0, none⟩ = some (.slice a L.length c) ∧ IsInts W (.slice a L.length c) L)
    (hY : ∀ (j : Nat) (x : Int) (W : World), L[j]? = some x → J j W → YieldAt F (n - 1) Try.prog l #[.int .i64 x] W fun e W' => (e = .returned (.bool true) ∧ J (j + 1) W') ∨ (e = .returned (.bool false) ∧ Jx W'))
    (W : World) (h0 : J 0 W) : CallsIn F n Try.prog 40 #[.func (.yield l) #[] #[], .pointer (some ⟨bx, 0, none⟩)] W fun e W' => (∃ v, e = .returned v) ∧ (J L.length W' ∨ Jx W') := by
  refine callsIn_of_wp Try.func40 rfl hF ?_ hro
  simp only [Try.ntmps40, List.size_toArray, List.length_cons, List.length_nil, Nat.reduceAdd, Nat.reduceSub, Array.replicate_succ, Array.replicate_zero, List.push_toArray, List.append_toArray, List.nil_append, List.cons_append]
  have c0 := (hJ 0 W h0).1
  gi_wp2
  gi_loopw [7] (fun i wr => ∃ j : Nat, j ≤ L.length ∧ i = .int .i64 j ∧ J j wr) (fun i _ => L.length - (intOf i).toNat)
  case atStart => exact ⟨0, Nat.zero_le _, by first | rfl | simp, h0⟩
  case round =>
    obtain ⟨j, hj, rfl, hJs⟩ := hrel
    clear c0
    by_cases hlt : j < L.length
    · obtain ⟨x, hx⟩ : ∃ x, L[j]? = some x := ⟨_, List.getElem?_eq_getElem hlt⟩
      obtain ⟨b, off, cap, e1, -, -, -, hc⟩ := (hJ j wr hJs).2.plain (by omega)
      cases e1
      have cx := hc j x hx
      have j0 : (0 : Int) ≤ (j : Int) := by omega
      have j1 : (j : Int) < (L.length : Int) := by omega
      have j2 : (L.length : Int) ≤ 1000000 := by omega
      obtain ⟨fn, tmps, assign, body, hy, hR⟩ := hY j x wr hx hJs
      clear hc hx
      gi_wp2
      refine hR.mono ?_
      rintro e W3 (⟨rfl, hJ3⟩ | ⟨rfl, hJ3⟩)
      · gi_wp2
        go_roundw
        case rel => exact ⟨j + 1, by omega, by first | rfl | simp, hJ3⟩
        case measure => simp [intOf]; omega
      · gi_wp2
        refine bodyPost_ret (results_none rfl _ _ _) rfl ?_
        exact ⟨⟨_, rfl⟩, .inr hJ3⟩
    · have hje : j = L.length := by omega
      subst hje
      gi_wp2
      go_end0
      exact ⟨⟨_, rfl⟩, .inl hJs⟩

theorem infoIntS : (Try.prog.info? 3).map (fun i => (i.zero, i.size, i.bytes)) = some (some (.int .i64 0), 1, 8) := infoInt
theorem OwnInts.putObj {W : World} {B : Nat} {v : Value} {l : List Int} (h : OwnInts W B v l) {q : Nat} {o o' : Obj} (ho : W.heap[q]? = some o) (hn : o.isCells = false) : OwnInts (W.putObj q o') B v l := by
  have h' : W.ownsRow B 3 1 v l.length (ints l) := h
  refine ⟨h'.1, h'.2.imp id ?_⟩
  rintro ⟨g, cap, cur, h1, h2, h3, h4⟩
  refine ⟨g, cap, cur, h1, h2, ?_, h4⟩
  have hne : g ≠ q := by
    rintro rfl
    rw [h3] at ho
    cases ho
    simp [Obj.isCells] at hn
  rw [World.putObj_heap_other hne]
  exact h3
theorem cell_putObj {W : World} {q : Nat} {o o' : Obj} (ho : W.heap[q]? = some o) (hn : o.isCells = false) {a : Addr} {x : Value} (hc : W.cell? a = some x) : (W.putObj q o').cell? a = some x := by
  have hne : a.block ≠ q := by
    rintro e
    have hb := Em.cell_lt hc
    unfold World.cell? at hc
    rw [e, ho] at hc
    cases o <;> simp [Obj.isCells] at hn hc
  exact (World.cell?_of_block (a := a) (World.putObj_heap_other hne)).trans hc

set_option maxRecDepth 100000 in
set_option maxHeartbeats 2000000 in
/-- AppendSeq between two rounds: k have come. -/
def AppI (w : World) (L : List Int) (k : Nat) (W : World) : Prop := ∃ v, W.heap[w.heap.size]? = some (.cells #[v] 29 (0, 0)) ∧ OwnInts W w.heap.size v (L.take k) ∧ Below w.heap.size w W
theorem box_cell {W : World} {g : Nat} {v : Value} {t : TypeId} (h : W.heap[g]? = some (.cells #[v] t (0, 0))) : W.cell? ⟨g, 0, none⟩ = some v ∧ W.frozen? ⟨g, 0, none⟩ = false := by
  simp [World.cell?, World.frozen?, h]
theorem box_ne {W : World} {B g : Nat} {v u : Value} {l : List Int} (h : W.heap[g]? = some (.cells #[u] 29 (0, 0))) (ho : OwnInts W B v l) : some g ≠ v.ownBlock := by
  intro e
  rcases ho.cases with ⟨rfl, -⟩ | ⟨g', cap, cur, rfl, -, -, -, -, h5, -⟩
  · cases e
  · cases e
    rw [h] at h5
    simp at h5
theorem OwnInts.setOther {W : World} {B g o : Nat} {v u : Value} {l : List Int} (h : OwnInts W B v l) (hne : some g ≠ v.ownBlock) : OwnInts (W.setCell ⟨g, o, none⟩ u) B v l := by
  have h' : W.ownsRow B 3 1 v l.length (ints l) := h
  refine ⟨h'.1, h'.2.imp id ?_⟩
  rintro ⟨g', cap, cur, h1, h2, h3, h4⟩
  refine ⟨g', cap, cur, h1, h2, ?_, h4⟩
  rw [Below.heap_setCell _ _ _ _ (by intro e; simp at e; subst e; exact hne (by rw [h1]; rfl))]
  exact h3
theorem AppI.below {w W W' : World} {L : List Int} {k : Nat} (h : AppI w L k W) (hb : Below W.heap.size W W') : AppI w L k W' := by
  obtain ⟨v, h1, h2, h3⟩ := h
  exact ⟨v, (hb.block _ (Array.getElem?_eq_some_iff.1 h1).1).trans h1, h2.below hb, h3.trans (hb.mono h3.size)⟩
theorem AppI.putObj {w W : World} {L : List Int} {k q : Nat} {o o' : Obj} (h : AppI w L k W) (hq : w.heap.size < q) (ho : W.heap[q]? = some o) (hn : o.isCells = false) (hw : o.isWalk = false) : AppI w L k (W.putObj q o') := by
  obtain ⟨v, h1, h2, h3⟩ := h
  exact ⟨v, (World.putObj_heap_other (by omega)).trans h1, h2.putObj ho hn, h3.trans (belowK_b (w := w) (Nat.le_refl _) W q o o' (by omega) ho hn hw)⟩

theorem app_step {w W w3 : World} {v v' : Value} {l : List Int} {x : Int} (h1 : W.heap[w.heap.size]? = some (.cells #[v] 29 (0, 0))) (h2 : OwnInts W w.heap.size v l) (h3 : Below w.heap.size w W) (ho : w3.ownsRow w.heap.size 3 1 v' (l.length + 1) (ints l ++ [.int .i64 x])) (hg : (W.alloc (.cells #[.int .i64 x] 3)).grownBy w3 v.ownBlock) :
    (∃ va vk vc, v' = .slice va vk vc) ∧ w3.heap[w.heap.size]? = some (.cells #[v] 29 (0, 0)) ∧ OwnInts w3 w.heap.size v' (l ++ [x]) ∧ Below w.heap.size w w3 ∧ W.heap.size ≤ w3.heap.size ∧ ∀ (q : Nat) (o : Obj), W.heap[q]? = some o → o.isCells = false → w3.heap[q]? = some o := by
  have hown : OwnInts w3 w.heap.size v' (l ++ [x]) := by simpa [OwnInts] using ho
  have hne := box_ne h1 h2
  have hs := hg.size
  simp at hs
  have hold : ∀ (q : Nat) (o : Obj), W.heap[q]? = some o → some q ≠ v.ownBlock → w3.heap[q]? = some o := fun q o hq hn => by
    have hql : q < W.heap.size := (Array.getElem?_eq_some_iff.1 hq).1
    exact (hg.block q (by simp; omega) hn).trans ((Below.heap_alloc _ _ q hql).trans hq)
  obtain ⟨va, vc, hf⟩ := hown.form
  refine ⟨⟨va, _, vc, hf⟩, hold _ _ h1 hne, hown, ?_, by omega, fun q o hq hn => hold q o hq ?_⟩
  · exact (h3.alloc h3.size _).grown hg (by have := h3.size; simp; omega) (fun k hk => (World.ownsRow.lt (show W.ownsRow w.heap.size 3 1 v l.length (ints l) from h2) k hk).1)
  · intro e
    rcases h2.cases with ⟨rfl, -⟩ | ⟨g, cap, cur, rfl, -, -, -, -, h5, -⟩
    · cases e
    · cases e
      rw [h5] at hq
      cases hq
      simp [Obj.isCells] at hn

set_option maxRecDepth 100000 in
set_option maxHeartbeats 2000000 in
/-- slices.AppendSeq(nil, slices.Values(x)). -/
theorem sapp_in (F : Fence) (n : Nat) (hF : F.fn 47) (hF2 : F.fn 40) (hro : F.round = none) (hn : 2 ≤ n) (bx c : Nat) (a : Option Addr) (L : List Int) (hlen : L.length ≤ 1000000) (w : World) (hbx : w.cell? ⟨bx, 0, none⟩ = some (.slice a L.length c)) (hv : IsInts w (.slice a L.length c) L) :
    CallsIn F n Try.prog 47 #[.slice none 0 0, .func (.func 40) #[] #[.pointer (some ⟨bx, 0, none⟩)]] w fun e w' => ∃ v, e = .returned v ∧ OwnInts w' w.heap.size v L ∧ Below w.heap.size w w' := by
  have hbl := Em.cell_lt hbx
  have HV : Hid (w.cell? ⟨bx, 0, none⟩ = some (.slice a L.length c) ∧ IsInts w (.slice a L.length c) L ∧ bx < w.heap.size) := ⟨hbx, hv, hbl⟩
  obtain ⟨W0, hW0⟩ : ∃ W0, W0 = w.alloc (.cells #[.slice none 0 0] 29) := ⟨_, rfl⟩
  have H0 : Hid (AppI w L 0 W0 ∧ W0.heap.size = w.heap.size + 1) := by
    refine ⟨⟨.slice none 0 0, ?_, OwnInts.nil _ _, ?_⟩, ?_⟩
    · rw [hW0]; exact World.alloc_heap_new w _
    · rw [hW0]; exact (Below.refl _ _).alloc (Nat.le_refl _) _
    · rw [hW0]; simp
  have HWE : Hid (w.alloc (.cells #[.slice none 0 0] 29) = W0) := hW0.symm
  clear hW0 hbx hv hbl
  obtain ⟨i0, hi, hz0, hz1, hz2⟩ := info_parts infoInt
  refine callsIn_of_wp_marks Try.func47 rfl hF ?_ hro
  simp only [Try.ntmps47, List.size_toArray, List.length_cons, List.length_nil, Nat.reduceAdd, Nat.reduceSub, Array.replicate_succ, Array.replicate_zero, List.push_toArray, List.append_toArray, List.nil_append, List.cons_append]
  gi_wp2
  rw [HWE.out]
  clear HWE
  refine range_search hro (by omega) (gf := 40) (lb := #[.pointer (some ⟨bx, 0, none⟩)]) rfl hF2 (enters_of Try.func40 (by kernel_rfl) rfl)
    (fun k => #[.int .i64 (L[k]?.getD 0)]) L.length (fun k => rfl) (AppI w L) (fun _ => False)
    (fun k a' W => a' = { tmps := #[.slice none 0 0, .func (.func 40) #[] #[.pointer (some ⟨bx, 0, none⟩)], .pointer (some ⟨w.heap.size, 0, none⟩), undef, .slice none 0 0, .int .i64 (L[k]?.getD 0), .func (.func 40) #[] #[.pointer (some ⟨bx, 0, none⟩)], .int .i64 (L[k]?.getD 0), undef, undef, undef, undef, undef], defers := [] })
    (fun k W W' h hb => h.below hb) (fun k W q o o' hq ho h1 h2 h => h.putObj (by have := H0.out.2; omega) ho h1 h2) (fun _ _ _ _ _ _ _ _ h => h) (fun _ _ _ _ _ _ _ _ h => h) H0.out.1 ?iter ?assign ?body ?done ?ret
  case iter =>
    intro l J Jx W hJI hY h0
    refine sval1_in F (n - 1) hF2 hro (by omega) l bx c a L hlen J Jx (fun k W hk => ?_) (fun j x W hx hj => ?_) W h0
    · obtain ⟨v, -, -, hb⟩ := hJI k W hk
      exact ⟨by rw [hb.cell (p := ⟨bx, 0, none⟩) HV.out.2.2]; exact HV.out.1, HV.out.2.1.below hb⟩
    · have := hY j W hj (List.getElem?_eq_some_iff.1 hx).1
      simpa only [hx, Option.getD_some] using this
  case assign =>
    intro l k W K hI hk hK
    clear hk hI
    gi_wp2
    exact hK _ _ (Below.refl _ _) rfl
  case body =>
    rintro l k a' W ⟨v, h1, h2, h3⟩ rfl hk
    obtain ⟨x, hx⟩ : ∃ x, L[k]? = some x := ⟨_, List.getElem?_eq_getElem hk⟩
    obtain ⟨c1, f1⟩ := box_cell h1
    have hne := box_ne h1 h2
    have hlt : (L.take k).length = k := by simp; omega
    have H1 : Hid (W.heap[w.heap.size]? = some (.cells #[v] 29 (0, 0)) ∧ OwnInts W w.heap.size v (L.take k) ∧ Below w.heap.size w W ∧ some w.heap.size ≠ v.ownBlock ∧ (L.take k).length = k) := ⟨h1, h2, h3, hne, hlt⟩
    have HX : Hid (L.take (k + 1) = L.take k ++ [x]) := by rw [Hid, List.take_succ_eq_append_getElem hk, (List.getElem?_eq_some_iff.1 hx).2]
    have hww : w.heap.size < W.heap.size := (Array.getElem?_eq_some_iff.1 h1).1
    rw [hx, Option.getD_some]
    clear h1 h2 h3 hne hlt hx
    gi_wp2_with (first
      | (gi_at_builtin; refine wpListIn_append_own _ rfl _ _ 29 rfl w.heap.size 3 i0 (.int .i64 0) 1 8 Try.underlying29 hi hz0 hz1 hz2 rfl (by decide) v _ _ rfl (World.ownsRow.alloc (show W.ownsRow w.heap.size 3 1 v (L.take k).length (ints (L.take k)) from H1.out.2.1) _) ⟨W.heap.size, 0, none⟩ 1 1 [.int .i64 x] rfl rfl (cells_one _ _ rfl _) (by intro u hu; simp only [List.mem_cons, List.not_mem_nil, or_false] at hu; subst hu; rfl) (by rw [H1.out.2.2.2.2]; unfold maxLen; omega) (by rw [H1.out.2.2.2.2]; omega) (by simp; omega) ?_; intro v' w3 hown' hg3 hnil3; have hst := app_step H1.out.1 H1.out.2.1 H1.out.2.2.1 hown' hg3; obtain ⟨⟨va, vk, vc, rfl⟩, hst⟩ := hst; obtain ⟨c3, f3⟩ := box_cell hst.1; have H3 : Hid _ := hst; clear hown' hg3 hnil3 hst)
      | gi_in)
    obtain ⟨d1, d2, d3, d4, d5⟩ := H3.out
    have hl3 : w.heap.size < w3.heap.size := by omega
    refine ⟨⟨.slice va vk vc, ?_, ?_, d3.setCell (p := ⟨w.heap.size, 0, none⟩) (Nat.le_refl _) _⟩, by simpa using d4, fun q hq hlq o hqo hn => ?_⟩
    · simp [World.setCell, Array.getElem?_modify, d1]
    · rw [HX.out]
      exact OwnInts.setOther d2 (box_ne d1 d2)
    · have hne : ¬ w.heap.size = q := by have := H0.out.2; omega
      first
        | (rw [if_neg hne, d5 q o hqo hn, hqo])
        | (rw [Below.heap_setCell _ _ _ _ (by simp; omega), d5 q o hqo hn, hqo])
  case done =>
    rintro d W hd ⟨v, h1, h2, h3⟩ hdef
    obtain ⟨c1, f1⟩ := box_cell h1
    rw [List.take_length] at h2
    obtain ⟨va, vc, hf⟩ := h2.form
    have H2 : Hid (OwnInts W w.heap.size v L ∧ Below w.heap.size w W ∧ W.heap[d]? = some (.deferred (some [])) ∧ w.heap.size < d) := ⟨h2, h3, hdef, by have := H0.out.2; omega⟩
    subst hf
    clear h1 h2 h3 hdef hd
    gi_wp2
    refine ⟨by simp, .inl ⟨_, _, rfl, run_takeDeferred H2.out.2.2.1, ?_⟩⟩
    exact ⟨_, results_tmp rfl _ _ _, _, rfl, H2.out.1.putObj H2.out.2.2.1 rfl, H2.out.2.1.trans (belowK_b (w := w) (Nat.le_refl _) W d _ _ (by have := H2.out.2.2.2; omega) H2.out.2.2.1 rfl rfl)⟩
  case ret =>
    intro d W hd h hdef
    exact h.elim
set_option maxRecDepth 100000 in
set_option maxHeartbeats 1000000 in
/-- slices.Collect(slices.Values(x)). -/
theorem scoll_any (bx c : Nat) (a : Option Addr) (L : List Int) (hlen : L.length ≤ 1000000) (w : World) (hbx : w.cell? ⟨bx, 0, none⟩ = some (.slice a L.length c)) (hv : IsInts w (.slice a L.length c) L) :
    Calls Try.prog 39 #[.func (.func 40) #[] #[.pointer (some ⟨bx, 0, none⟩)]] w fun e w' => ∃ v, e = .returned v ∧ OwnInts w' w.heap.size v L ∧ Below w.heap.size w w' := by
  have hc := (callsIn_wide (n := 4)).1 (sapp_in Fence.wide 4 trivial trivial rfl (by omega) bx c a L hlen w hbx hv)
  clear hbx hv
  go_enter Try.func39, Try.ntmps39
  go_wp2_with fail
  refine hc.mono ?_
  rintro e w1 ⟨v, rfl, h1, h2⟩
  go_wp2
  go_ret
  exact ⟨v, rfl, h1, h2⟩

/-- slices.Sorted(slices.Values(x)), behind slices.Values. -/
theorem ssorted_any (bx c : Nat) (a : Option Addr) (L : List Int) (hlen : L.length ≤ 1000000) (w : World) (hbx : w.cell? ⟨bx, 0, none⟩ = some (.slice a L.length c)) (hv : IsInts w (.slice a L.length c) L) :
    Calls Try.prog 26 #[.func (.func 40) #[] #[.pointer (some ⟨bx, 0, none⟩)]] w fun e w' => ∃ v, e = .returned v ∧ OwnInts w' w.heap.size v (sortI L) ∧ Below w.heap.size w w' := by
  have hc : Calls Try.prog 39 #[.func (.func 40) #[] #[.pointer (some ⟨bx, 0, none⟩)]] w fun e w' => ∃ v, e = .returned v ∧ OwnInts w' w.heap.size v L ∧ Below w.heap.size w w' := scoll_any bx c a L hlen w hbx hv
  clear hbx hv
  go_enter Try.func26, Try.ntmps26
  go_wp2_with fail
  refine hc.mono ?_
  rintro e w1 ⟨v, rfl, h1, h2⟩
  have H1 : Hid (OwnInts w1 w.heap.size v L ∧ Below w.heap.size w w1) := ⟨h1, h2⟩
  clear h1 h2 hc
  go_wp2_with fail
  refine (isort_any w.heap.size v L w1 H1.out.1 hlen).mono ?_
  rintro e w2 ⟨rfl, k1, k2⟩
  have H2 : Hid (OwnInts w2 w.heap.size v (sortI L) ∧ Below w.heap.size w w2) := ⟨k1, H1.out.2.trans k2⟩
  clear k1 k2
  go_wp2
  go_ret
  exact ⟨v, rfl, H2.out⟩
end Go.Proofs.Ytbiihiibebdjgaa

/- The document's own General (chapter 10). -/
import Derived.Test.YtbiihiibebdjgaaRSchB
import Derived.Test.YtbiihiibebdjgaaScG
namespace Go.Proofs.Ytbiihiibebdjgaa
open Go.RowKit Go.Em8
set_option linter.unusedSimpArgs false
set_option linter.unusedVariables false

/-- What General answers: the type as it came. -/
def GenR (w : World) (l : List Bd) (T : Ty) (tv : Value) (e : Ending) (w' : World) : Prop :=
  ∃ va vk vc s n ka kl kc, tv = .agg #[.string s, .int .i64 n, .slice ka kl kc] ∧ e = .returned (.agg #[.slice va vk vc, .string s, .int .i64 n, .slice ka kl kc]) ∧ OwnInts w' w.heap.size (.slice va vk vc) (genV l T) ∧ (∀ y ∈ genV l T, Em5.I64 y) ∧ Below w.heap.size w w'
/-- The box of the answer while it grows. -/
structure GI (W2 : World) (s : ByteArray) (n : Int) (ka : Option Addr) (kl kc : Nat) (v : Value) (L : List Int) (wr : World) : Prop where
  box : wr.heap[W2.heap.size]? = some (.cells #[v, .string s, .int .i64 n, .slice ka kl kc] 31 (0, 0))
  own : OwnInts wr (W2.heap.size + 1) v L
  bel : Below W2.heap.size W2 wr
theorem GI.cells {W2 wr : World} {s : ByteArray} {n : Int} {ka : Option Addr} {kl kc : Nat} {v : Value} {L : List Int} (h : GI W2 s n ka kl kc v L wr) : wr.cell? ⟨W2.heap.size, 0, none⟩ = some v ∧ wr.cell? ⟨W2.heap.size, 1, none⟩ = some (.string s) ∧ wr.cell? ⟨W2.heap.size, 2, none⟩ = some (.int .i64 n) ∧ wr.cell? ⟨W2.heap.size, 3, none⟩ = some (.slice ka kl kc) ∧ ∀ o, wr.frozen? ⟨W2.heap.size, o, none⟩ = false := by
  have hb := h.box
  exact ⟨by simp [World.cell?, hb], by simp [World.cell?, hb], by simp [World.cell?, hb], by simp [World.cell?, hb], fun o => by simp [World.frozen?, hb]⟩
theorem GI.lt {W2 wr : World} {s : ByteArray} {n : Int} {ka : Option Addr} {kl kc : Nat} {v : Value} {L : List Int} (h : GI W2 s n ka kl kc v L wr) : W2.heap.size < wr.heap.size := (Array.getElem?_eq_some_iff.1 h.box).1
theorem GI.ne {W2 wr : World} {s : ByteArray} {n : Int} {ka : Option Addr} {kl kc : Nat} {v : Value} {L : List Int} (h : GI W2 s n ka kl kc v L wr) : some W2.heap.size ≠ v.ownBlock := fun e => by
  have := (World.ownsRow.lt (show wr.ownsRow (W2.heap.size + 1) 3 1 v L.length (ints L) from h.own) _ e.symm).1
  omega
theorem GI.below {W2 wr wr' : World} {s : ByteArray} {n : Int} {ka : Option Addr} {kl kc : Nat} {v : Value} {L : List Int} (h : GI W2 s n ka kl kc v L wr) (hb : Below wr.heap.size wr wr') : GI W2 s n ka kl kc v L wr' :=
  ⟨(hb.block _ h.lt).trans h.box, h.own.below hb, h.bel.trans (hb.mono h.bel.size)⟩
/-- Behind 'append(x.Vars, ..)', and the store. -/
theorem GI.put {W2 x x' : World} {s : ByteArray} {n : Int} {ka : Option Addr} {kl kc : Nat} {v v' : Value} {L L' : List Int} (h : GI W2 s n ka kl kc v L x) (ho : OwnInts x' (W2.heap.size + 1) v' L') (hg : x.grownBy x' v.ownBlock) (hb : Below (W2.heap.size + 1) x x') : GI W2 s n ka kl kc v' L' (x'.setCell ⟨W2.heap.size, 0, none⟩ v') := by
  have hbox : x'.heap[W2.heap.size]? = some (.cells #[v, .string s, .int .i64 n, .slice ka kl kc] 31 (0, 0)) := (hg.block _ h.lt h.ne).trans h.box
  refine ⟨?_, ho.setOther fun e => ?_, (h.bel.trans (hb.mono (by omega))).setCell (p := ⟨W2.heap.size, 0, none⟩) (Nat.le_refl _) _⟩
  · simp [World.setCell, Array.getElem?_modify, hbox]
  · have := (World.ownsRow.lt (show x'.ownsRow (W2.heap.size + 1) 3 1 v' L'.length (ints L') from ho) _ e.symm).1
    omega
theorem GI.start (W2 : World) (s : ByteArray) (n : Int) (ka : Option Addr) (kl kc : Nat) : GI W2 s n ka kl kc (.slice none 0 0) [] (W2.alloc (.cells #[.slice none 0 0, .string s, .int .i64 n, .slice ka kl kc] 31)) :=
  ⟨World.alloc_heap_new W2 _, OwnInts.nil _ _, (Below.refl _ _).alloc (Nat.le_refl _) _⟩

set_option maxRecDepth 100000 in
set_option maxHeartbeats 2000000 in
theorem rGeneral_any (l : List Bd) (v : Value) (T : Ty) (tv : Value) (w : World) (hv : IsBds w v l) (hl : BdsOk l) (ht : IsTy w T tv) (hs : T.size ≤ 1000) :
    Calls Try.prog 10 #[v, tv] w fun e w' => GenR w l T tv e w' := by
  obtain ⟨op, tn, a, k, cap, rfl⟩ := isTyP_form (isTy_isP _ _ ht)
  obtain ⟨pa, pk, pc, rfl⟩ : ∃ pa pk pc, v = .slice pa pk pc := by obtain ⟨pa, pc, e, -⟩ := hv; exact ⟨_, _, _, e⟩
  obtain ⟨W, hW⟩ : ∃ W, W = (w.alloc (.cells #[.string op, .int .i64 tn, .slice a k cap] 25)).alloc (.cells #[.slice none 0 0, .string ⟨#[]⟩, .int .i64 0, .slice none 0 0] 31) := ⟨_, rfl⟩
  have hbW : Below w.heap.size w W := by rw [hW]; exact ((Below.refl _ _).alloc (Nat.le_refl _) _).alloc (by simp) _
  have hWz : W.heap.size = w.heap.size + 2 := by rw [hW]; simp
  have k0 : W.cell? ⟨w.heap.size, 0, none⟩ = some (.string op) := by rw [hW]; simp
  have k1 : W.cell? ⟨w.heap.size, 1, none⟩ = some (.int .i64 tn) := by rw [hW]; simp
  have k2 : W.cell? ⟨w.heap.size, 2, none⟩ = some (.slice a k cap) := by rw [hW]; simp
  have q0 : W.cell? ⟨w.heap.size + 1, 0, none⟩ = some (.slice none 0 0) := by rw [hW]; simp
  have q1 : W.cell? ⟨w.heap.size + 1, 1, none⟩ = some (.string ⟨#[]⟩) := by rw [hW]; simp
  have q2 : W.cell? ⟨w.heap.size + 1, 2, none⟩ = some (.int .i64 0) := by rw [hW]; simp
  have q3 : W.cell? ⟨w.heap.size + 1, 3, none⟩ = some (.slice none 0 0) := by rw [hW]; simp
  have fq : ∀ o, W.frozen? ⟨w.heap.size + 1, o, none⟩ = false := by intro o; rw [hW]; simp [go_sem]
  have HC : Hid (∀ w', Below W.heap.size W w' → (w'.cell? ⟨w.heap.size + 1, 0, none⟩ = some (.slice none 0 0) ∧ w'.cell? ⟨w.heap.size + 1, 1, none⟩ = some (.string ⟨#[]⟩) ∧ w'.cell? ⟨w.heap.size + 1, 2, none⟩ = some (.int .i64 0) ∧ w'.cell? ⟨w.heap.size + 1, 3, none⟩ = some (.slice none 0 0) ∧ (∀ o, w'.frozen? ⟨w.heap.size + 1, o, none⟩ = false))) := fun w' hb => by
    have e2 : ∀ o, w'.cell? ⟨w.heap.size + 1, o, none⟩ = W.cell? ⟨w.heap.size + 1, o, none⟩ := fun o => hb.cell (p := ⟨w.heap.size + 1, o, none⟩) (by simp only; omega)
    have e4 : ∀ o, w'.frozen? ⟨w.heap.size + 1, o, none⟩ = W.frozen? ⟨w.heap.size + 1, o, none⟩ := fun o => hb.frozen (p := ⟨w.heap.size + 1, o, none⟩) (by simp only; omega)
    exact ⟨by rw [e2]; exact q0, by rw [e2]; exact q1, by rw [e2]; exact q2, by rw [e2]; exact q3, fun o => by rw [e4]; exact fq o⟩
  have HK : Hid (∀ w', Below W.heap.size W w' → (w'.cell? ⟨w.heap.size, 0, none⟩ = some (.string op) ∧ w'.cell? ⟨w.heap.size, 1, none⟩ = some (.int .i64 tn) ∧ w'.cell? ⟨w.heap.size, 2, none⟩ = some (.slice a k cap))) := fun w' hb => by
    have e1 : ∀ o, w'.cell? ⟨w.heap.size, o, none⟩ = W.cell? ⟨w.heap.size, o, none⟩ := fun o => hb.cell (p := ⟨w.heap.size, o, none⟩) (by simp only; omega)
    exact ⟨by rw [e1]; exact k0, by rw [e1]; exact k1, by rw [e1]; exact k2⟩
  have HW : Hid (Below w.heap.size w W ∧ W.heap.size = w.heap.size + 2) := ⟨hbW, hWz⟩
  have HV : Hid (IsBds W (.slice pa pk pc) l ∧ BdsOk l) := ⟨hv.below hbW, hl⟩
  have HT : Hid (IsTy w T (.agg #[.string op, .int .i64 tn, .slice a k cap]) ∧ IsTy W T (.agg #[.string op, .int .i64 tn, .slice a k cap]) ∧ T.size ≤ 1000 ∧ (tvars T []).length ≤ 1000) := ⟨ht, isTy_below hbW _ _ ht, hs, by have := tvars_len T []; simp at this; omega⟩
  have HWE : Hid ((w.alloc (.cells #[.string op, .int .i64 tn, .slice a k cap] 25)).alloc (.cells #[.slice none 0 0, .string ⟨#[]⟩, .int .i64 0, .slice none 0 0] 31) = W) := hW.symm
  have b0 : Below W.heap.size W W.drew := (Below.refl _ _).drew
  clear hv hl ht hs hbW hWz hW k0 k1 k2 q0 q1 q2 q3 fq
  go_enter Try.func10, Try.ntmps10
  go_upto_region 1 with fail
  rw [HWE.out]
  clear HWE
  go_region_held (fun w' => w'.cell? ⟨w.heap.size, 0, none⟩ = some (.string op) ∧ w'.cell? ⟨w.heap.size, 1, none⟩ = some (.int .i64 tn) ∧ w'.cell? ⟨w.heap.size, 2, none⟩ = some (.slice a k cap))
    (with_reducible (first | exact HK.out _ b2 | exact HK.out _ b1 | exact HK.out _ b0))
    (first
      | (go_at_call 23; refine (rtVars_any T _ _ (isTy_below b1 _ _ HT.out.2.1) (by have := HT.out.2.2.1; omega)).mono ?_; rintro e x2 ⟨u2, rfl, ho2, hi2, hc⟩; have O2 : Hid (OwnInts x2 W.heap.size u2 (tvars T []) ∧ (∀ y ∈ tvars T [], Em5.I64 y) ∧ IsInts x2 u1 (freeP l)) := ⟨ho2.base b1.size, hi2, O1.out.below hc⟩; have b2 := b1.trans (hc.mono b1.size); clear hc ho2 hi2)
      | (go_at_call 15; refine (rFree_any l _ _ (HV.out.1.below b0) HV.out.2).mono ?_; rintro e x1 ⟨u1, rfl, ho1, hi1, hc⟩; have O1 : Hid (IsInts x1 u1 (freeP l)) := ho1.is hi1; have b1 := b0.trans (hc.mono b0.size); clear hc ho1 hi1))
  all_goals
    obtain ⟨kk0, kk1, kk2⟩ := HK.out _ b2
    obtain ⟨N, hN⟩ : ∃ N, N = (tvars T []).length := ⟨_, rfl⟩
    have HN : Hid (N = (tvars T []).length) := hN
    obtain ⟨la, lc, hl2⟩ := O2.out.1.form
    rw [← hN] at hl2
    subst hl2
    obtain ⟨fa, fk, fc, rfl⟩ : ∃ fa fk fc, u1 = .slice fa fk fc := by obtain ⟨a', c', e, -⟩ := O2.out.2.2; exact ⟨_, _, _, e⟩
    have hNl : N ≤ 1000 := by have := HT.out.2.2.2; omega
    have HB2 : Hid (Below W.heap.size W x2) := b2
    have HIL : Hid (IsInts x2 (.slice la N lc) (tvars T [])) := O2.out.1.is O2.out.2.1
    have HG0 : Hid (GI x2 op tn a k cap (.slice none 0 0) [] (x2.alloc (.cells #[.slice none 0 0, .string op, .int .i64 tn, .slice a k cap] 31))) := GI.start x2 op tn a k cap
    clear hN b0 b1 b2
    go_wp2_with fail
    go_loopw [8] (fun i wx => ∃ (j : Nat) (wr : World) (va : Option Addr) (vk vc : Nat), wr = wx ∧ j ≤ N ∧ i = .int .i64 j ∧ Hid (GI x2 op tn a k cap (.slice va vk vc) (((tvars T []).take j).filter fun x => decide (x ∉ freeP l)) wr)) (fun i _ => N - (intOf i).toNat)
    case atStart => exact ⟨0, _, none, 0, 0, rfl, Nat.zero_le _, rfl, by rw [Hid, List.take_zero]; exact HG0.out⟩
    case round =>
      clear HG0 kk0 kk1 kk2
      obtain ⟨j, wr, va, vk, vc, rfl, hj, rfl, HG⟩ := hrel
      by_cases hlt : j < N
      · obtain ⟨y, hy⟩ : ∃ y, (tvars T [])[j]? = some y := ⟨_, List.getElem?_eq_getElem (by have := HN.out; omega)⟩
        obtain ⟨g5, off5, cap5, e5, -, -, h5, hc5⟩ := HIL.out.plain (by have := HN.out; omega)
        have e6 : la = some ⟨g5, off5, none⟩ := by cases e5; rfl
        subst e6
        have cy : wr.cell? ⟨g5, off5 + j, none⟩ = some (.int .i64 y) := (HG.out.bel.cell (p := ⟨g5, off5 + j, none⟩) h5).trans (hc5 j y hy)
        have HH := rtHas_any (.slice fa fk fc) (freeP l) y wr (O2.out.2.2.below (HG.out.bel))
        have HG5 : Hid (g5 < x2.heap.size ∧ x2.cell? ⟨g5, off5 + j, none⟩ = some (.int .i64 y)) := ⟨h5, hc5 j y hy⟩
        have HY : Hid ((tvars T [])[j]? = some y ∧ Em5.I64 y) := ⟨hy, O2.out.2.1 y (List.mem_of_getElem? hy)⟩
        have hj0 : (0 : Int) ≤ (j : Int) := by omega
        have hjl : (j : Int) < (N : Int) := by omega
        obtain ⟨q, hq⟩ : ∃ q, q = decide (y ∈ freeP l) := ⟨_, rfl⟩
        rw [← hq] at HH
        have HQ : Hid (q = decide (y ∈ freeP l)) := hq
        obtain ⟨c0, c1, c2, c3, cf⟩ := HG.out.cells
        have HNX : Hid (((tvars T []).take (j + 1)).filter (fun x => decide (x ∉ freeP l)) = ((tvars T []).take j).filter (fun x => decide (x ∉ freeP l)) ++ (if q then [] else [y])) := by
          have hjl' := (List.getElem?_eq_some_iff.1 hy).1
          rw [Hid, List.take_succ_eq_append_getElem hjl', List.filter_append, (List.getElem?_eq_some_iff.1 hy).2, hq]
          by_cases hm : y ∈ freeP l <;> simp [hm]
        clear hy hc5 h5 e5 hq hlt
        cases q with
        | true =>
          go_wp2_with (go_at_call 18; refine HH.mono ?_; rintro e w' ⟨rfl, rfl⟩)
          go_roundw
          case rel => exact ⟨j + 1, _, va, vk, vc, rfl, by omega, by go_num, by rw [Hid, HNX.out]; simpa using HG.out⟩
          case measure => simp [intOf]; omega
        | false =>
          go_wp2_with (go_at_call 18; refine HH.mono ?_; rintro e w' ⟨rfl, hw⟩; have hw := hw.symm; subst hw)
          -- REGION7
          have HS : Hid (∀ w', Below x2.heap.size x2 w' → w'.cell? ⟨g5, off5 + j, none⟩ = some (.int .i64 y)) := fun w' hb => (hb.cell (p := ⟨g5, off5 + j, none⟩) HG5.out.1).trans HG5.out.2
          have HLEN : Hid ((((tvars T []).take j).filter fun x => decide (x ∉ freeP l)).length ≤ 1000) := by
            have h1 := List.length_filter_le (fun x => decide (x ∉ freeP l)) ((tvars T []).take j)
            have h2 : ((tvars T []).take j).length ≤ j := List.length_take_le _ _
            rw [Hid]
            omega
          refine wp_region_held_drew (S := fun w' => w'.cell? ⟨g5, off5 + j, none⟩ = some (.int .i64 y)) (by kernel_rfl) (HS.out _ HG.out.bel.drew) (fun hHeld => ?_)
          obtain ⟨y0, hy0⟩ : ∃ y0, y0 = wr.drew := ⟨_, rfl⟩
          have G0 : Hid (GI x2 op tn a k cap (.slice va vk vc) (((tvars T []).take j).filter fun x => decide (x ∉ freeP l)) y0) := by rw [hy0]; exact HG.out.below (Below.refl _ _).drew
          rw [← hy0]
          rw [← hy0] at hHeld
          clear hy0 c0 c1 c2 c3 cf cy
          obtain ⟨c0, c1, c2, c3, cf⟩ := G0.out.cells
          refine wpAnyH_take (i := 0) (v := ?_) rfl (by kernel_rfl) (by kernel_rfl) (by kernel_rfl) (fun _ _ _ h => h) (Or.inl ⟨by rfl, ?_⟩) (by assumption) ?_
          rotate_left
          · (intro w hSw; (try dsimp only at hSw); go_simp); all_goals (with_reducible rfl)
          simp only [List.getElem_toArray, List.getElem_cons_succ, List.getElem_cons_zero, Act.put, List.setIfInBounds_toArray, List.set_cons_zero, List.set_cons_succ]
          refine wpAnyH_take (i := 2) (v := ?_) rfl (by kernel_rfl) (by kernel_rfl) (by kernel_rfl) (fun _ _ _ h => h) (Or.inl ⟨by rfl, ?_⟩) (by assumption) ?_
          rotate_left
          · (intro w hSw; (try dsimp only at hSw); go_simp); all_goals (with_reducible rfl)
          simp only [List.getElem_toArray, List.getElem_cons_succ, List.getElem_cons_zero, Act.put, List.setIfInBounds_toArray, List.set_cons_zero, List.set_cons_succ]
          refine wpAnyH_take (i := 3) (v := ?_) rfl (by kernel_rfl) (by kernel_rfl) (by kernel_rfl) (fun _ _ _ h => h) (Or.inl ⟨by rfl, ?_⟩) (by assumption) ?_
          rotate_left
          · (intro w hSw; (try dsimp only at hSw); go_simp); all_goals (with_reducible rfl)
          simp only [List.getElem_toArray, List.getElem_cons_succ, List.getElem_cons_zero, Act.put, List.setIfInBounds_toArray, List.set_cons_zero, List.set_cons_succ]
          refine wpAnyH_take (i := 4) (v := ?_) rfl (by kernel_rfl) (by kernel_rfl) (by kernel_rfl) (fun _ _ _ h => h) (Or.inl ⟨by rfl, ?_⟩) (by assumption) ?_
          rotate_left
          · (intro w hSw; (try dsimp only at hSw); go_simp); all_goals (with_reducible rfl)
          simp only [List.getElem_toArray, List.getElem_cons_succ, List.getElem_cons_zero, Act.put, List.setIfInBounds_toArray, List.set_cons_zero, List.set_cons_succ]
          refine wpAnyH_take (i := 5) (v := ?_) rfl (by kernel_rfl) (by kernel_rfl) (by kernel_rfl) (fun _ _ _ h => h) (Or.inl ⟨by rfl, ?_⟩) (by assumption) ?_
          rotate_left
          · (intro w hSw; (try dsimp only at hSw); go_simp); all_goals (with_reducible rfl)
          simp only [List.getElem_toArray, List.getElem_cons_succ, List.getElem_cons_zero, Act.put, List.setIfInBounds_toArray, List.set_cons_zero, List.set_cons_succ]
          refine wpAnyH_ready (rs := [1, 6]) (by kernel_rfl) (by simp) (AllReadyH.cons rfl (fun K hK => ?_) (AllReadyH.cons rfl (fun K hK => ?_) AllReadyH.nil))
          ·
            go_simp
            refine hK.out _ _ (HS.out _ G0.out.bel) (fun hHeld => ?_)
            clear hK K
            refine wpAnyH_ready (rs := [6]) (by kernel_rfl) (by simp) (AllReadyH.cons rfl (fun K hK => ?_) AllReadyH.nil)
            go_simp
            obtain ⟨y1, hy1⟩ : ∃ y1, y1 = y0.alloc (.cells #[.int .i64 y] 3) := ⟨_, rfl⟩
            have G1 : Hid (GI x2 op tn a k cap (.slice va vk vc) (((tvars T []).take j).filter fun x => decide (x ∉ freeP l)) y1) := by rw [hy1]; exact G0.out.below ((Below.refl _ _).alloc (Nat.le_refl _) _)
            have cn : y1.cell? ⟨y0.heap.size, 0, none⟩ = some (.int .i64 y) := by rw [hy1]; simp
            rw [← hy1]
            clear hy1 c0 c1 c2 c3 cf
            obtain ⟨c0, c1, c2, c3, cf⟩ := G1.out.cells
            refine hK.out _ _ (HS.out _ G1.out.bel) (fun hHeld => ?_)
            clear hK K
            refine wpAnyH_ready (rs := [7]) (by kernel_rfl) (by simp) (AllReadyH.cons rfl (fun K hK => ?_) AllReadyH.nil)
            refine step_app_ints (by rfl) _ _ (by rfl) (x2.heap.size + 1) (.slice va vk vc) (((tvars T []).take j).filter fun x => decide (x ∉ freeP l)) (by rfl) G1.out.own (.slice (some ⟨y0.heap.size, 0, none⟩) 1 1) [y] (by rfl) (src_one cn HY.out.2) (by have := HLEN.out; rw [List.length_singleton]; omega) G1.out.lt ?_
            intro v3 y2 o2 g2 e2 d2
            obtain ⟨wa, wc, hwf⟩ := o2.form
            obtain ⟨wk, hwk⟩ : ∃ wk, wk = ((((tvars T []).take j).filter fun x => decide (x ∉ freeP l)) ++ [y]).length := ⟨_, rfl⟩
            rw [← hwk] at hwf
            subst hwf
            have G3 : Hid (GI x2 op tn a k cap (.slice wa wk wc) ((((tvars T []).take j).filter fun x => decide (x ∉ freeP l)) ++ [y]) (y2.setCell ⟨x2.heap.size, 0, none⟩ (.slice wa wk wc))) := G1.out.put o2 g2 d2
            have hbx : y2.heap[x2.heap.size]? = some (.cells #[.slice va vk vc, .string op, .int .i64 tn, .slice a k cap] 31 (0, 0)) := (g2.block _ G1.out.lt G1.out.ne).trans G1.out.box
            have hb2 : Below x2.heap.size x2 y2 := G1.out.bel.trans (d2.mono (Nat.le_succ _))
            clear c0 c1 c2 c3 cf hwk o2 g2 e2 d2
            have c0 : y2.cell? ⟨x2.heap.size, 0, none⟩ = some (.slice va vk vc) := by simp [World.cell?, hbx]
            have cf : ∀ o, y2.frozen? ⟨x2.heap.size, o, none⟩ = false := fun o => by simp [World.frozen?, hbx]
            refine hK.out _ _ (HS.out _ hb2) (fun hHeld => ?_)
            clear hK K hbx hb2
            refine wpAnyH_take (i := 8) (v := ?_) rfl (by kernel_rfl) (by kernel_rfl) (by kernel_rfl) (fun _ _ _ h => h) (Or.inl ⟨by rfl, ?_⟩) (by assumption) ?_
            rotate_left
            · (intro w hSw; (try dsimp only at hSw); go_simp); all_goals (with_reducible rfl)
            simp only [List.getElem_toArray, List.getElem_cons_succ, List.getElem_cons_zero, Act.put, List.setIfInBounds_toArray, List.set_cons_zero, List.set_cons_succ]
            refine wpAnyH_ready (rs := [9]) (by kernel_rfl) (by simp) (AllReadyH.cons rfl (fun K hK => ?_) AllReadyH.nil)
            go_simp
            refine hK.out _ _ (HS.out _ G3.out.bel) (fun hHeld => ?_)
            clear hK K c0 cf
            refine wpAnyH_done (by kernel_rfl) ?_ _
            go_wp2_with fail
            go_roundw
            case rel => exact ⟨j + 1, _, wa, wk, wc, rfl, by omega, by go_num, by rw [Hid, HNX.out]; simpa using G3.out⟩
            case measure => simp [intOf]; omega
          ·
            go_simp
            obtain ⟨y1, hy1⟩ : ∃ y1, y1 = y0.alloc (.cells #[.int .i64 y] 3) := ⟨_, rfl⟩
            have G1 : Hid (GI x2 op tn a k cap (.slice va vk vc) (((tvars T []).take j).filter fun x => decide (x ∉ freeP l)) y1) := by rw [hy1]; exact G0.out.below ((Below.refl _ _).alloc (Nat.le_refl _) _)
            have cn : y1.cell? ⟨y0.heap.size, 0, none⟩ = some (.int .i64 y) := by rw [hy1]; simp
            rw [← hy1]
            clear hy1 c0 c1 c2 c3 cf
            obtain ⟨c0, c1, c2, c3, cf⟩ := G1.out.cells
            refine hK.out _ _ (HS.out _ G1.out.bel) (fun hHeld => ?_)
            clear hK K
            refine wpAnyH_ready (rs := [1]) (by kernel_rfl) (by simp) (AllReadyH.cons rfl (fun K hK => ?_) AllReadyH.nil)
            go_simp
            refine hK.out _ _ (HS.out _ G1.out.bel) (fun hHeld => ?_)
            clear hK K
            refine wpAnyH_ready (rs := [7]) (by kernel_rfl) (by simp) (AllReadyH.cons rfl (fun K hK => ?_) AllReadyH.nil)
            refine step_app_ints (by rfl) _ _ (by rfl) (x2.heap.size + 1) (.slice va vk vc) (((tvars T []).take j).filter fun x => decide (x ∉ freeP l)) (by rfl) G1.out.own (.slice (some ⟨y0.heap.size, 0, none⟩) 1 1) [y] (by rfl) (src_one cn HY.out.2) (by have := HLEN.out; rw [List.length_singleton]; omega) G1.out.lt ?_
            intro v3 y2 o2 g2 e2 d2
            obtain ⟨wa, wc, hwf⟩ := o2.form
            obtain ⟨wk, hwk⟩ : ∃ wk, wk = ((((tvars T []).take j).filter fun x => decide (x ∉ freeP l)) ++ [y]).length := ⟨_, rfl⟩
            rw [← hwk] at hwf
            subst hwf
            have G3 : Hid (GI x2 op tn a k cap (.slice wa wk wc) ((((tvars T []).take j).filter fun x => decide (x ∉ freeP l)) ++ [y]) (y2.setCell ⟨x2.heap.size, 0, none⟩ (.slice wa wk wc))) := G1.out.put o2 g2 d2
            have hbx : y2.heap[x2.heap.size]? = some (.cells #[.slice va vk vc, .string op, .int .i64 tn, .slice a k cap] 31 (0, 0)) := (g2.block _ G1.out.lt G1.out.ne).trans G1.out.box
            have hb2 : Below x2.heap.size x2 y2 := G1.out.bel.trans (d2.mono (Nat.le_succ _))
            clear c0 c1 c2 c3 cf hwk o2 g2 e2 d2
            have c0 : y2.cell? ⟨x2.heap.size, 0, none⟩ = some (.slice va vk vc) := by simp [World.cell?, hbx]
            have cf : ∀ o, y2.frozen? ⟨x2.heap.size, o, none⟩ = false := fun o => by simp [World.frozen?, hbx]
            refine hK.out _ _ (HS.out _ hb2) (fun hHeld => ?_)
            clear hK K hbx hb2
            refine wpAnyH_take (i := 8) (v := ?_) rfl (by kernel_rfl) (by kernel_rfl) (by kernel_rfl) (fun _ _ _ h => h) (Or.inl ⟨by rfl, ?_⟩) (by assumption) ?_
            rotate_left
            · (intro w hSw; (try dsimp only at hSw); go_simp); all_goals (with_reducible rfl)
            simp only [List.getElem_toArray, List.getElem_cons_succ, List.getElem_cons_zero, Act.put, List.setIfInBounds_toArray, List.set_cons_zero, List.set_cons_succ]
            refine wpAnyH_ready (rs := [9]) (by kernel_rfl) (by simp) (AllReadyH.cons rfl (fun K hK => ?_) AllReadyH.nil)
            go_simp
            refine hK.out _ _ (HS.out _ G3.out.bel) (fun hHeld => ?_)
            clear hK K c0 cf
            refine wpAnyH_done (by kernel_rfl) ?_ _
            go_wp2_with fail
            go_roundw
            case rel => exact ⟨j + 1, _, wa, wk, wc, rfl, by omega, by go_num, by rw [Hid, HNX.out]; simpa using G3.out⟩
            case measure => simp [intOf]; omega
          -- END7
      · have hje : j = N := by omega
        subst hje
        have HF : Hid (GI x2 op tn a k cap (.slice va vk vc) (genV l T) wr) := by
          have h := HG.out
          rw [HN.out, List.take_length] at h
          exact h
        obtain ⟨c0, c1, c2, c3, cf⟩ := HF.out.cells
        have HBW : Hid (Below W.heap.size W wr ∧ W.heap.size ≤ x2.heap.size) := ⟨HB2.out.trans (HF.out.bel.mono HB2.out.size), HB2.out.size⟩
        obtain ⟨q0, q1, q2, q3, fq⟩ := HC.out wr HBW.out.1
        have hne : ¬ x2.heap.size = w.heap.size + 1 := by have := HBW.out.2; have := HW.out.2; omega
        clear HG HIL
        go_wp2_with fail
        refine bodyPost_ret (v := .agg #[.slice va vk vc, .string op, .int .i64 tn, .slice a k cap]) (by simp [results, Try.results10, go_sem, q0, q1, q2, q3]) rfl ⟨va, vk, vc, op, tn, a, k, cap, rfl, rfl, ?_, (fun y hy => O2.out.2.1 y (List.mem_filter.1 (show y ∈ (tvars T []).filter _ from hy)).1), below_set4 (HW.out.1.trans (HBW.out.1.mono HW.out.1.size)) (by omega) _ _ _ _⟩
        have hne2 : some (w.heap.size + 1) ≠ (Value.slice va vk vc).ownBlock := fun e => by
          have h1 := (World.ownsRow.lt (show wr.ownsRow (x2.heap.size + 1) 3 1 _ _ _ from HF.out.own) _ e.symm).1
          have h2 := HW.out.2
          have h3 := HBW.out.2
          omega
        exact ((((HF.out.own.setOther hne2).setOther hne2).setOther hne2).setOther hne2).base (by have h2 := HW.out.2; have h3 := HBW.out.2; omega)
end Go.Proofs.Ytbiihiibebdjgaa

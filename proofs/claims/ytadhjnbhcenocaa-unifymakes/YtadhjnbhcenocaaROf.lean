/- What the document's own 'Of' (of a Sub) makes of any type. -/
import Derived.Test.YtadhjnbhcenocaaROfV
namespace Go.Proofs.Ytadhjnbhcenocaa
open Go.RowKit Go.Em8 Go.Em9
set_option linter.unusedSimpArgs false
set_option linter.unusedVariables false

set_option maxRecDepth 100000 in
set_option maxHeartbeats 4000000 in
theorem rOf_else (D : Said) (sb : Nat) (s : Int → Ty) (hs : s = ofD D) (op : List Int) (n : Int) (ks : List Ty) (hop : op ≠ tVar) (hks : ks.length ≤ 1000000) (ih : ∀ t ∈ ks, OfOk D sb t) : OfOk D sb (.mk op n ks) := by
  intro v w hv hS
  have HI : Hid (∀ t ∈ ks, OfOk D sb t) := ih
  have HSU : Hid (∀ w', Below w.heap.size w w' → SubR w' sb D) := fun w' h => hS.below h
  have hv' := hv
  unfold OfOk at HI
  rw [← hs] at HI ⊢
  clear hs
  unfold IsTy at hv
  obtain ⟨a, cap, rfl, t1, i1, hc1, hc2, hk⟩ := hv
  have HK : Hid (0 < ks.length → ∃ b off, a = some ⟨b, off, none⟩ ∧ b < w.heap.size ∧ TysAt w b off ks) := hk
  have HT1 : Hid (Em5.Txt op) := t1
  have HI1 : Hid (Em5.I64 n) := i1
  have HP : Hid (tsub s (.mk op n ks) = .mk op n (ks.map (tsub s))) := tsub_else s hop
  have hq : ((Em.str op).toList == [118, 97, 114]) = false := by rw [Em5.str_eq t1.1]; exact decide_eq_false hop
  have HS0 : Hid (PutI (fun _ => False) w op n (.slice a ks.length cap) (.slice none 0 0) [] (((w.alloc (.cells #[.string (Em.str op), .int .i64 n, .slice a ks.length cap] 25)).alloc (.cells #[.string ⟨#[]⟩, .int .i64 0, .slice none 0 0] 25)).alloc (.cells #[.string (Em.str op), .int .i64 n, .slice none 0 0] 25))) :=
    ⟨by simp [go_sem], ⟨by simp [go_sem], by simp [go_sem], by simp [go_sem]⟩, ⟨by simp [go_sem], by simp [go_sem], by simp [go_sem]⟩, fun o => by simp [go_sem], fun o => by simp [go_sem], Em8.OwnTys.nil _ _ _ _, (((Below.refl _ _).alloc (Nat.le_refl _) _).alloc (by simp) _).alloc (by simp; omega) _, by simp⟩
  clear ih hk t1 i1 hop hS hv'
  go_enter Try.func19, Try.ntmps19
  go_wp2_with fail
  go_loopw [7] (fun i wr => ∃ (j : Nat) (kv : Value), j ≤ ks.length ∧ i = .int .i64 j ∧ PutI (fun _ => False) w op n (.slice a ks.length cap) kv ((ks.take j).map (tsub s)) wr) (fun i _ => ks.length - (intOf i).toNat)
  case atStart => exact ⟨0, _, Nat.zero_le _, rfl, HS0.out⟩
  case round =>
    clear HS0
    obtain ⟨j, kv, hj, rfl, hI⟩ := hrel
    have HPI : Hid (PutI (fun _ => False) w op n (.slice a ks.length cap) kv ((ks.take j).map (tsub s)) wr) := hI
    obtain ⟨ka, kc, hkv, hkc1, hkc2⟩ := ownTys_form hI.own
    obtain ⟨a2, ⟨b0, b1, b2⟩, ⟨c0, c1, c2⟩, f1, f2, -, hw, hz⟩ := hI
    by_cases hlt : j < ks.length
    · obtain ⟨b, off, rfl, hb, hat⟩ := HK.out (by omega)
      obtain ⟨t, ht⟩ : ∃ t, ks[j]? = some t := ⟨_, List.getElem?_eq_getElem hlt⟩
      obtain ⟨y0, y1, y2, m0, m1, m2, kn⟩ := tysAt_get ks off j t hat ht
      obtain ⟨x0, x1, xa, xk, xc, hxe⟩ := isTyP_form (isTy_isP _ _ kn)
      simp only [Value.agg.injEq, Array.mk.injEq, List.cons.injEq, and_true] at hxe
      obtain ⟨rfl, rfl, rfl⟩ := hxe
      have key : ∀ o, wr.cell? ⟨b, o, none⟩ = w.cell? ⟨b, o, none⟩ := fun o => hw.cell (p := ⟨b, o, none⟩) hb
      rw [← key] at m0 m1 m2
      have HN : Hid (IsTy w t (.agg #[.string x0, .int .i64 x1, .slice xa xk xc])) := kn
      have HTT : Hid (ks[j]? = some t) := ht
      have hj0 : (0 : Int) ≤ (j : Int) := by omega
      have hjl : (j : Int) < (ks.length : Int) := by omega
      have hD : Below wr.heap.size wr wr.drew := (Below.refl _ _).drew
      have HWD : Hid (Below w.heap.size w wr.drew) := hw.trans (hD.mono hw.size)
      have HW0 : Hid (∀ b, (fun _ : Nat => False) b → b < w.heap.size) := fun b hb => hb.elim
      have htk : ((ks.take j).map (tsub s)).length ≤ 1000000 := by simp; omega
      have hlj : ((ks.take j).map (tsub s)).length = j := by simp; omega
      rw [hlj] at hkv
      clear key kn hat ht b0 b1 b2 c0 c1 f1 hkc1 hkc2 hlj
      subst hkv
      have HNX : Hid ((ks.take (j + 1)).map (tsub s) = (ks.take j).map (tsub s) ++ [tsub s t]) := by
        have hjl' := (List.getElem?_eq_some_iff.1 HTT.out).1
        rw [Hid, List.take_succ_eq_append_getElem hjl', List.map_append, (List.getElem?_eq_some_iff.1 HTT.out).2]; rfl
      have HL4 : Hid (((ks.take j).map (tsub s) ++ [tsub s t]).length = j + 1) := by rw [Hid]; simp; omega
      clear f2
      go_wp2_with fail
      go_region_law (first
        | (refine step_app_ty (P := fun b => False ∨ w.heap.size + 3 ≤ b) (w := w3) (by rfl) _ _ (by rfl) (w.heap.size + 3) _ ((ks.take j).map (tsub s)) (by rfl) hI3.out.own (tsub s t) _ _ _ hel3.out _ (by first | rfl | simp) (by rfl) htk hI3.out.size ?_; intro v4 w4 o4 hb4; obtain ⟨va, vc, hv4, -, -⟩ := ownTys_form o4; rw [HL4.out] at hv4; subst hv4; have HS4 : Hid (PutI (fun _ => False) w op n (.slice (some ⟨b, off, none⟩) ks.length cap) (.slice va (j + 1) vc) ((ks.take j).map (tsub s) ++ [tsub s t]) (w4.setCell ⟨w.heap.size + 2, 2, none⟩ (.slice va (j + 1) vc))) := PutI.app HW0.out hI3.out hb4 o4; have c24 := (hI3.out.far hb4).2.2.1.2.2; have f24 := (hI3.out.far hb4).2.2.2.2.1 2; clear o4 hb4)
        | (go_simp; go_at_call 19; refine (HI.out t (List.mem_of_getElem? HTT.out) _ _ (isTy_below HWD.out _ _ HN.out) (HSU.out _ HWD.out)).mono ?_; rintro e w3 ⟨u3, rfl, hu3, hb3⟩; obtain ⟨z0, z1, za, zk, zc, rfl⟩ := isTyP_form hu3; have hI3 : Hid (PutI (fun _ => False) w op n (.slice (some ⟨b, off, none⟩) ks.length cap) (.slice ka j kc) ((ks.take j).map (tsub s)) w3) := HPI.out.below (hD.trans hb3); have hel3 : Hid (IsTyP (fun x => (False ∨ w.heap.size + 3 ≤ x) ∧ some x ≠ (Value.slice ka j kc).ownBlock) w3 (tsub s t) (.agg #[.string z0, .int .i64 z1, .slice za zk zc])) := put_apart HPI.out HW0.out (isTyP_wide hu3 (fun b hb _ => .inr hb)); have c23 := hI3.out.2.2.1.2.2; have hz3 : w.heap.size + 2 < w3.heap.size := (by have := hI3.out.size; omega); clear hu3 hb3))
      all_goals
        go_wp2
        go_roundw
        case rel => exact ⟨j + 1, _, by omega, by go_num, by rw [HNX.out]; exact HS4.out⟩
        case measure => simp [intOf]; omega
    · have hje : j = ks.length := by omega
      subst hje
      have HTA : Hid ((ks.take ks.length).map (tsub s) = ks.map (tsub s)) := by rw [Hid, List.take_length]
      have hlj : ((ks.take ks.length).map (tsub s)).length = ks.length := by simp
      rw [hlj] at hkv
      clear hlj
      subst hkv
      have HF : Hid (IsTyP (fun x => False ∨ w.heap.size + 3 ≤ x) wr (.mk op n ((ks.take ks.length).map (tsub s))) (.agg #[.string (Em.str op), .int .i64 n, .slice ka ks.length kc])) :=
        Em8.OwnTys.is HPI.out.own hkc2 (fun x hx => .inr hx) HT1.out HI1.out
      go_wp2
      refine bodyPost_ret (v := .agg #[.string (Em.str op), .int .i64 n, .slice ka ks.length kc]) (by simp [results, Try.results19, go_sem, b0, b1, b2]) rfl ⟨_, rfl, ?_, ?_⟩
      · rw [HP.out, ← HTA.out]
        refine isTyP_keep (by simp) (fun x hp hl => ⟨?_, ?_⟩) _ _ HF.out
        · have hne : ¬ x = w.heap.size + 1 := by
            rcases hp with h | h
            · exact h.elim
            · omega
          rw [Below.heap_setCell _ _ _ _ (by simp; exact hne), Below.heap_setCell _ _ _ _ (by simp; exact hne), Below.heap_setCell _ _ _ _ (by simp; exact hne)]
        · rcases hp with h | h
          · exact h.elim
          · omega
      · exact below_set3 (g := w.heap.size + 1) hw (by omega) _ _ _

/-- Of a type, by what was said: of whatever rank. -/
theorem rOf_rank (D : Said) (hD : Em9.Good D) (sb : Nat) : ∀ (r : Nat) (T : Ty) (k : Nat), D.length - k = r → From D k T → teach T = true → OfOk D sb T := by
  intro r
  induction r using Nat.strongRecOn with
  | ind r ihr =>
    intro T
    induction T using Ty.ind with
    | h op n ks ih =>
      intro k hk hf he
      by_cases hop : op = tVar
      · subst hop
        obtain rfl := var_nil he
        refine rOf_var D hD sb n fun i u hi => ?_
        have h1 := hf i n u hi ((tocc_eq _ _ _ _).2 (.inl ⟨rfl, rfl⟩))
        have h2 : i < D.length := (List.getElem?_eq_some_iff.1 hi).1
        exact ihr (D.length - (i + 1)) (by omega) u (i + 1) rfl (hD.later i n u hi) (hD.teach (n, u) (List.mem_of_getElem? hi)).2
      · refine rOf_else D sb _ rfl op n ks hop ?_ fun t ht => ih t ht k hk (hf.kid ht) (teach_kids he t ht)
        exact (thin_iff.1 (thin_of_teach _ he)).1
theorem rOf_any (D : Said) (hD : Em9.Good D) (sb : Nat) (T : Ty) (he : teach T = true) : OfOk D sb T := rOf_rank D hD sb _ T 0 rfl (From.zero D T) he
end Go.Proofs.Ytadhjnbhcenocaa

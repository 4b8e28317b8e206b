/- The program's own Free (package scheme). -/
import Derived.Test.YtbiihiibebdjgaaScB
import Derived.Test.YtbiihiibebdjgaaScV
import Derived.Test.YtbiihiibebdjgaaIntsB
import Derived.Test.YtbiihiibebdjgaaRSchA
import Derived.Test.YtbiihiibebdjgaaTypV
namespace Go.Proofs.Ytbiihiibebdjgaa
open Go.RowKit Go.Em8
set_option linter.unusedSimpArgs false
set_option linter.unusedVariables false

/-- An env that is no more than so much. -/
def BdsOk (l : List Bd) : Prop := l.length ≤ 100 ∧ ∀ b ∈ l, b.ty.size ≤ 2000 ∧ b.vs.length ≤ 1000
theorem ownOf_len (b : Bd) : (ownOf b).length ≤ b.ty.size := by
  have h1 := List.length_filter_le (fun x => decide (x ∉ b.vs)) (tvars b.ty [])
  have h2 := tvars_len b.ty []
  unfold ownOf
  simp at h2
  omega
theorem flat_len : ∀ (l : List Bd), (∀ b ∈ l, b.ty.size ≤ 2000) → (l.flatMap ownOf).length ≤ l.length * 2000
  | [], _ => by simp
  | b :: r, h => by
    have h1 := flat_len r fun c hc => h c (by simp [hc])
    have h2 := ownOf_len b
    have h3 := h b (by simp)
    simp only [List.flatMap_cons, List.length_append, List.length_cons]
    omega
theorem sortI_filter (vs l : List Int) : (l.filter fun x => decide (x ∉ sortI vs)) = l.filter fun x => decide (x ∉ vs) := by
  congr 1
  funext x
  exact decide_eq_decide.2 (not_congr (sortI_mem vs x))

set_option maxRecDepth 100000 in
set_option maxHeartbeats 2000000 in
theorem sFree_any (l : List Bd) (v : Value) (w : World) (hv : IsBds w v l) (hl : BdsOk l) :
    Calls Try.prog 14 #[v] w fun e w' => ∃ u, e = .returned u ∧ OwnInts w' w.heap.size u (freeP l) ∧ (∀ x ∈ freeP l, Em5.I64 x) ∧ Below w.heap.size w w' := by
  have HV : Hid (IsBds w v l) := hv
  have HL : Hid (BdsOk l) := hl
  have hlen := hl.1
  obtain ⟨pa, pc, rfl, -⟩ := hv
  clear hl
  go_enter Try.func14, Try.ntmps14
  go_wp2_with fail
  go_loopw [3, 9] (fun kv i wr => ∃ (j : Nat) (kv0 : Value), kv0 = kv ∧ j ≤ l.length ∧ i = .int .i64 j ∧ Hid (OwnInts wr w.heap.size kv0 ((l.take j).flatMap ownOf) ∧ (∀ x ∈ (l.take j).flatMap ownOf, Em5.I64 x) ∧ Below w.heap.size w wr)) (fun _ i _ => l.length - (intOf i).toNat)
  case atStart => exact ⟨0, _, rfl, Nat.zero_le _, rfl, OwnInts.nil _ _, by simp, Below.refl _ _⟩
  case round =>
    obtain ⟨j, kv0, rfl, hj, rfl, HR⟩ := hrel
    by_cases hlt : j < l.length
    · obtain ⟨x, hx⟩ : ∃ x, l[j]? = some x := ⟨_, List.getElem?_eq_getElem hlt⟩
      obtain ⟨b, off, va, vk, vc, s, n, ka, kl, kc, rfl, -, hc1, hc2, hb, ht, m0, m1, m2, m3, m4, gV, gT⟩ := HV.out.get hx
      have key : ∀ o, wr.cell? ⟨b, o, none⟩ = w.cell? ⟨b, o, none⟩ := fun o => HR.out.2.2.cell (p := ⟨b, o, none⟩) hb
      rw [← key] at m0 m1 m2 m3 m4
      have hvk : vk = x.vs.length := by obtain ⟨a', c', e, -⟩ := gV; cases e; rfl
      subst hvk
      obtain ⟨W1, hW1⟩ : ∃ W1, W1 = wr.alloc (.cells #[.string (Em.str x.nm), .slice va x.vs.length vc, .string s, .int .i64 n, .slice ka kl kc] 41) := ⟨_, rfl⟩
      have hb1 : Below wr.heap.size wr W1 := by rw [hW1]; exact (Below.refl _ _).alloc (Nat.le_refl _) _
      have hz1 : W1.heap.size = wr.heap.size + 1 := by rw [hW1]; simp
      have c1 : W1.cell? ⟨wr.heap.size, 1, none⟩ = some (.slice va x.vs.length vc) := by rw [hW1]; simp
      have c2 : W1.cell? ⟨wr.heap.size, 2, none⟩ = some (.string s) := by rw [hW1]; simp
      have c3 : W1.cell? ⟨wr.heap.size, 3, none⟩ = some (.int .i64 n) := by rw [hW1]; simp
      have c4 : W1.cell? ⟨wr.heap.size, 4, none⟩ = some (.slice ka kl kc) := by rw [hW1]; simp
      have HW1 : Hid (wr.alloc (.cells #[.string (Em.str x.nm), .slice va x.vs.length vc, .string s, .int .i64 n, .slice ka kl kc] 41) = W1) := hW1.symm
      have hxs := HL.out.2 x (List.mem_of_getElem? hx)
      have HX : Hid (l[j]? = some x ∧ x.ty.size ≤ 2000 ∧ x.vs.length ≤ 1000) := ⟨hx, hxs⟩
      have hbw : Below w.heap.size w W1 := HR.out.2.2.trans (hb1.mono HR.out.2.2.size)
      have H1 : Hid (Below w.heap.size w W1 ∧ OwnInts W1 w.heap.size kv0 ((l.take j).flatMap ownOf) ∧ IsInts W1 (.slice va x.vs.length vc) x.vs ∧ IsTy W1 x.ty (.agg #[.string s, .int .i64 n, .slice ka kl kc]) ∧ W1.heap.size = wr.heap.size + 1) := ⟨hbw, HR.out.1.below hb1, gV.below hbw, isTy_below hbw _ _ gT, hz1⟩
      have HNX : Hid ((l.take (j + 1)).flatMap ownOf = (l.take j).flatMap ownOf ++ ownOf x) := by
        rw [Hid, List.take_succ_eq_append_getElem hlt, (List.getElem?_eq_some_iff.1 hx).2, List.flatMap_append]
        simp
      have HFL : Hid (((l.take j).flatMap ownOf).length ≤ 1000000) := by
        have h1 := flat_len (l.take j) fun b hb => (HL.out.2 b (List.mem_of_mem_take hb)).1
        have h4 : (l.take j).length ≤ 100 := Nat.le_trans (List.length_take_le' j l) hlen
        rw [Hid]
        omega
      have hjI : (j : Int) < (l.length : Int) := by omega
      have hz : wr.heap.size < W1.heap.size := by omega
      clear key hx hxs hbw hb1 gV gT hz1 hW1 ht
      go_upto_region 5 with fail
      rw [HW1.out]
      clear HW1 m0 m1 m2 m3 m4
      go_wp2_with fail
      refine (svals_any _ _ _ _).mono ?_
      rintro e w2 ⟨rfl, rfl⟩
      obtain ⟨W2, hW2⟩ : ∃ W2, W2 = W1.alloc (.cells #[.slice va x.vs.length vc] 29) := ⟨_, rfl⟩
      have hb2 : Below W1.heap.size W1 W2 := by rw [hW2]; exact (Below.refl _ _).alloc (Nat.le_refl _) _
      have hbx : W2.cell? ⟨W1.heap.size, 0, none⟩ = some (.slice va x.vs.length vc) := by rw [hW2]; simp
      have H2 : Hid (Below W1.heap.size W1 W2 ∧ W2.cell? ⟨W1.heap.size, 0, none⟩ = some (.slice va x.vs.length vc)) := ⟨hb2, hbx⟩
      rw [← hW2]
      clear hb2 hbx hW2
      go_wp2_with fail
      refine (ssorted_any W1.heap.size vc va x.vs (by have := HX.out.2.2; omega) W2 H2.out.2 (H1.out.2.2.1.below H2.out.1)).mono ?_
      rintro e w3 ⟨u3, rfl, o3, b3⟩
      have hb3 : Below W1.heap.size W1 w3 := H2.out.1.trans (b3.mono H2.out.1.size)
      have key3 : ∀ o, w3.cell? ⟨wr.heap.size, o, none⟩ = W1.cell? ⟨wr.heap.size, o, none⟩ := fun o => hb3.cell (p := ⟨wr.heap.size, o, none⟩) hz
      rw [← key3] at c2 c3 c4
      have H3 : Hid (Below W1.heap.size W1 w3 ∧ OwnInts w3 W1.heap.size u3 (sortI x.vs)) := ⟨hb3, o3.base H2.out.1.size⟩
      clear o3 b3 hb3 key3 c1
      go_wp2_with fail
      refine (yVars_any x.ty _ w3 (isTy_below H3.out.1 _ _ H1.out.2.2.2.1) (by have := HX.out.2.1; omega)).mono ?_
      rintro e w4 ⟨u4, rfl, o4, i4, b4⟩
      have H4 : Hid (OwnInts w4 w3.heap.size u4 (tvars x.ty []) ∧ (∀ y ∈ tvars x.ty [], Em5.I64 y) ∧ Below w3.heap.size w3 w4) := ⟨o4, i4, b4⟩
      clear o4 i4 b4 c2 c3 c4
      go_wp2_with fail
      have hi3 : ∀ y ∈ sortI x.vs, Em5.I64 y := fun y hy => H1.out.2.2.1.i64 y ((sortI_mem _ _).1 hy)
      refine (swithout_any w3.heap.size u4 u3 (tvars x.ty []) (sortI x.vs) w4 H4.out.1 H4.out.2.2.size (by have := tvars_len x.ty []; have := HX.out.2.1; simp at *; omega) ((H3.out.2.below H4.out.2.2).is hi3) (sortI_rises _) (by rw [sortI_len]; have := HX.out.2.2; omega) (fun g hg hg2 => by
        have h1 := (World.ownsRow.lt (show w3.ownsRow W1.heap.size 3 1 u3 (sortI x.vs).length (ints (sortI x.vs)) from H3.out.2) g hg).2
        have h2 := (World.ownsRow.lt (show w4.ownsRow w3.heap.size 3 1 u4 (tvars x.ty []).length (ints (tvars x.ty [])) from H4.out.1) g hg2).1
        omega)).mono ?_
      rintro e w5 ⟨u5, rfl, o5, b5⟩
      rw [sortI_filter] at o5
      have hb5 : Below W1.heap.size W1 w5 := H3.out.1.trans ((H4.out.2.2.trans b5).mono H3.out.1.size)
      have H5 : Hid (OwnInts w5 w3.heap.size u5 (ownOf x) ∧ OwnInts w5 w.heap.size kv0 ((l.take j).flatMap ownOf) ∧ Below w.heap.size w w5 ∧ ∀ y ∈ ownOf x, Em5.I64 y) :=
        ⟨o5, H1.out.2.1.below hb5, H1.out.1.trans (hb5.mono H1.out.1.size), fun y hy => H4.out.2.1 y (List.mem_filter.1 (show y ∈ (tvars x.ty []).filter _ from hy)).1⟩
      clear o5 b5 hb5 hi3
      go_wp2_with (at_builtin; refine wpList_app_ints (by rfl) _ _ (by rfl) w.heap.size kv0 ((l.take j).flatMap ownOf) (by rfl) H5.out.2.1 u5 (ownOf x) (by rfl) (H5.out.1.src H5.out.2.2.2) (by have := HFL.out; have := ownOf_len x; have := HX.out.2.1; omega) H5.out.2.2.1.size ?_; intro v6 w6 o6 g6 n6 b6; have H6 : Hid (OwnInts w6 w.heap.size v6 ((l.take j).flatMap ownOf ++ ownOf x) ∧ Below w.heap.size w w6) := ⟨o6, H5.out.2.2.1.trans b6⟩; clear o6 g6 n6 b6)
      go_roundw
      case rel =>
        refine ⟨j + 1, _, rfl, by omega, by go_num, ?_, ?_, H6.out.2⟩
        · rw [HNX.out]; exact H6.out.1
        · rw [HNX.out]
          intro y hy
          rcases List.mem_append.1 hy with h | h
          · exact HR.out.2.1 y h
          · exact H5.out.2.2.2 y h
      case measure => simp [intOf]; omega
    · have hje : j = l.length := by omega
      subst hje
      have HE : Hid (OwnInts wr w.heap.size kv0 (l.flatMap ownOf) ∧ (∀ x ∈ l.flatMap ownOf, Em5.I64 x) ∧ Below w.heap.size w wr) := by
        have h1 := HR.out
        rw [List.take_length] at h1
        exact h1
      have HFL : Hid ((l.flatMap ownOf).length ≤ 1000000) := by
        have h1 := flat_len l fun b hb => (HL.out.2 b hb).1
        rw [Hid]
        omega
      clear HR
      go_wp2_with fail
      refine (isort_any w.heap.size kv0 (l.flatMap ownOf) wr HE.out.1 HFL.out).mono ?_
      rintro e w2 ⟨rfl, o2, b2⟩
      have H2 : Hid (OwnInts w2 w.heap.size kv0 (sortI (l.flatMap ownOf)) ∧ Below w.heap.size w w2) := ⟨o2, HE.out.2.2.trans b2⟩
      clear o2 b2
      go_wp2_with fail
      refine (icompact_any w.heap.size kv0 (sortI (l.flatMap ownOf)) w2 H2.out.1 (by rw [sortI_len]; exact HFL.out)).mono ?_
      rintro e w3 ⟨u3, rfl, o3, b3⟩
      have H3 : Hid (OwnInts w3 w.heap.size u3 (freeP l) ∧ Below w.heap.size w w3) := ⟨o3, H2.out.2.trans b3⟩
      clear o3 b3
      go_wp2
      go_ret
      refine ⟨u3, rfl, H3.out.1, fun x hx => HE.out.2.1 x ?_, H3.out.2⟩
      unfold freeP at hx
      rwa [compact_mem, sortI_mem] at hx
end Go.Proofs.Ytbiihiibebdjgaa

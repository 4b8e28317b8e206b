/- What the document's own 'say' (of a Sub) does. -/
import Derived.Test.YtadhjnbhcenocaaRSayL
import Derived.Deep.RegionHeld
namespace Go.Proofs.Ytadhjnbhcenocaa
open Go.RowKit Go.Em8 Go.Em9
set_option linter.unusedSimpArgs false
set_option linter.unusedVariables false

theorem step_sayV {w X : World} {B : Nat} {Z : Nat → Prop} {sb : Nat} {vv tt v4 t4 : Value} {L1 : List Int} {L2 : List Ty} {N : Int} {T : Ty} {tv : Value} {ops : Array Oper} {o : Oper} {a : Act} {K : Act → World → Prop} {Q : Exit → Act → World → Prop} {E : Prop} (hgd : o.guard = none) (s x : Operand) (ho : o.op = .call { callee := .builtin .append, args := #[s, x], argTypes := #[32, 32] })
    (n : Int) (g : Nat) (hs : a.eval s = v4) (hx : a.eval x = .slice (some ⟨g, 0, none⟩) 1 1) (h : SayI w X B Z sb vv tt v4 t4 L1 L2 N T tv) (hg : X.cell? ⟨g, 0, none⟩ = some (.int .i64 n)) (hl : L1.length ≤ 1000000)
    (hK : ∀ v5 X', SayI w X' B Z sb vv tt v5 t4 (L1 ++ [n]) L2 N T tv → X.grownBy X' v4.ownBlock → K (a.put o.dst v5) X') : if Region.wanted o (yielded ops a.tmps) = true then Oper.wp Try.prog o a X K Q else E := by
  obtain ⟨v5, X', hr, h1, h2⟩ := h.appV n g hg hl o.type
  exact wp_cons hgd s x _ ho _ _ v5 hs hx hr (hK v5 X' h1 h2)
theorem step_sayT {w X : World} {B : Nat} {Z : Nat → Prop} {sb : Nat} {vv tt v4 t4 : Value} {L1 : List Int} {L2 : List Ty} {N : Int} {T : Ty} {c0 c1 c2 : Value} {ops : Array Oper} {o : Oper} {a : Act} {K : Act → World → Prop} {Q : Exit → Act → World → Prop} {E : Prop} (hgd : o.guard = none) (s x : Operand) (ho : o.op = .call { callee := .builtin .append, args := #[s, x], argTypes := #[23, 23] })
    (g : Nat) (hs : a.eval s = t4) (hx : a.eval x = .slice (some ⟨g, 0, none⟩) 1 1) (h : SayI w X B Z sb vv tt v4 t4 L1 L2 N T (.agg #[c0, c1, c2])) (hg : X.cell? ⟨g, 0, none⟩ = some c0 ∧ X.cell? ⟨g, 1, none⟩ = some c1 ∧ X.cell? ⟨g, 2, none⟩ = some c2) (hl : L2.length ≤ 1000000)
    (hK : ∀ t5 X', (X'.cell? ⟨sb, 0, none⟩ = some vv ∧ X'.cell? ⟨sb, 1, none⟩ = some tt ∧ X'.cell? ⟨sb, 2, none⟩ = some (.int .i64 N) ∧ (∀ o, X'.frozen? ⟨sb, o, none⟩ = false)) ∧ OwnInts X' B v4 L1 ∧
      OwnTys (fun b => Z b ∧ b ≠ sb ∧ some b ≠ v4.ownBlock) 25 X' B t5 (L2 ++ [T]) ∧ some sb ≠ t5.ownBlock ∧ (v4.ownBlock = none ∨ v4.ownBlock ≠ t5.ownBlock) ∧ w.heap.size ≤ X'.heap.size ∧ (∀ k, k < w.heap.size → ¬ SubOf sb vv tt k → X'.heap[k]? = w.heap[k]?) ∧ Below B w X' ∧ (t5.ownBlock = tt.ownBlock ∨ ∃ g, t5.ownBlock = some g ∧ w.heap.size ≤ g) → K (a.put o.dst t5) X') : if Region.wanted o (yielded ops a.tmps) = true then Oper.wp Try.prog o a X K Q else E := by
  obtain ⟨t5, X', hr, h1⟩ := h.appT g hg.1 hg.2.1 hg.2.2 hl o.type
  exact wp_cons hgd s x _ ho _ _ t5 hs hx hr (hK t5 X' h1)

theorem say_done {w2 X6 : World} {B : Nat} {Z : Nat → Prop} {sb : Nat} {vv tt v5 t6 : Value} {D : Said} {n : Int} {T : Ty} {N : Int} (nv : some sb ≠ v5.ownBlock) (hsb : B ≤ sb) (vn : v5.ownBlock = vv.ownBlock ∨ ∃ g, v5.ownBlock = some g ∧ w2.heap.size ≤ g) (hi : (∀ p ∈ D ++ [(n, T)], Em5.I64 p.1) ∧ D.length + 1 ≤ 1000000)
    (h6 : (X6.cell? ⟨sb, 0, none⟩ = some vv ∧ X6.cell? ⟨sb, 1, none⟩ = some tt ∧ X6.cell? ⟨sb, 2, none⟩ = some (.int .i64 N) ∧ (∀ o, X6.frozen? ⟨sb, o, none⟩ = false)) ∧ OwnInts X6 B v5 (D.map (·.1) ++ [n]) ∧
      OwnTys (fun b => Z b ∧ b ≠ sb ∧ some b ≠ v5.ownBlock) 25 X6 B t6 (D.map (·.2) ++ [T]) ∧ some sb ≠ t6.ownBlock ∧ (v5.ownBlock = none ∨ v5.ownBlock ≠ t6.ownBlock) ∧ w2.heap.size ≤ X6.heap.size ∧ (∀ k, k < w2.heap.size → ¬ SubOf sb vv tt k → X6.heap[k]? = w2.heap[k]?) ∧ Below B w2 X6 ∧ (t6.ownBlock = tt.ownBlock ∨ ∃ g, t6.ownBlock = some g ∧ w2.heap.size ≤ g)) :
    (Sub9 ((X6.setCell ⟨sb, 0, none⟩ v5).setCell ⟨sb, 1, none⟩ t6) B Z sb v5 t6 (D ++ [(n, T)]) N ∧ (∀ k, SubOf sb v5 t6 k → SubOf sb vv tt k ∨ w2.heap.size ≤ k) ∧ Below B w2 ((X6.setCell ⟨sb, 0, none⟩ v5).setCell ⟨sb, 1, none⟩ t6) ∧ ∀ k, k < w2.heap.size → ¬ SubOf sb vv tt k → ((X6.setCell ⟨sb, 0, none⟩ v5).setCell ⟨sb, 1, none⟩ t6).heap[k]? = w2.heap[k]?) ∧
    (∀ k, k < w2.heap.size → ¬ SubOf sb vv tt k → X6.heap[k]? = w2.heap[k]?) ∧ (∀ k, k < w2.heap.size → ¬ SubOf sb vv tt k → (X6.setCell ⟨sb, 0, none⟩ v5).heap[k]? = w2.heap[k]?) ∧ (∀ k, k < w2.heap.size → ¬ SubOf sb vv tt k → ((X6.setCell ⟨sb, 0, none⟩ v5).setCell ⟨sb, 1, none⟩ t6).heap[k]? = w2.heap[k]?) := by
  obtain ⟨⟨c0, c1, c2, fz⟩, ho, ht, nt, vt, hz, hb, hbel, tn⟩ := h6
  have e1 : ∀ k, k ≠ sb → (X6.setCell ⟨sb, 0, none⟩ v5).heap[k]? = X6.heap[k]? := fun k hk => Below.heap_setCell _ _ _ _ (by simpa using hk)
  have e2 : ∀ k, k ≠ sb → ((X6.setCell ⟨sb, 0, none⟩ v5).setCell ⟨sb, 1, none⟩ t6).heap[k]? = X6.heap[k]? := fun k hk => by rw [Below.heap_setCell _ _ _ _ (by simpa using hk)]; exact e1 k hk
  have nsb : ∀ k, ¬ SubOf sb vv tt k → k ≠ sb := fun k h e => h (.inl e)
  have f1 : ∀ k, k < w2.heap.size → ¬ SubOf sb vv tt k → (X6.setCell ⟨sb, 0, none⟩ v5).heap[k]? = w2.heap[k]? := fun k hk hn => (e1 k (nsb k hn)).trans (hb k hk hn)
  have f2 : ∀ k, k < w2.heap.size → ¬ SubOf sb vv tt k → ((X6.setCell ⟨sb, 0, none⟩ v5).setCell ⟨sb, 1, none⟩ t6).heap[k]? = w2.heap[k]? := fun k hk hn => (e2 k (nsb k hn)).trans (hb k hk hn)
  have g0 : (X6.setCell ⟨sb, 0, none⟩ v5).cell? ⟨sb, 0, none⟩ = some v5 := World.cell?_setCell_same _ _ _ c0
  have g1 : (X6.setCell ⟨sb, 0, none⟩ v5).cell? ⟨sb, 1, none⟩ = some tt := by rw [World.cell?_setCell_other _ _ _ _ (by simp)]; exact c1
  have g2 : (X6.setCell ⟨sb, 0, none⟩ v5).cell? ⟨sb, 2, none⟩ = some (.int .i64 N) := by rw [World.cell?_setCell_other _ _ _ _ (by simp)]; exact c2
  refine ⟨⟨⟨?_, World.cell?_setCell_same _ _ _ g1, ?_, fun o => ?_, ?_, hi.1, ?_, hsb, nv, nt, vt, by simpa using hi.2⟩, fun k hk => ?_, ?_, f2⟩, hb, f1, f2⟩
  · rw [World.cell?_setCell_other _ _ _ _ (by simp)]; exact g0
  · rw [World.cell?_setCell_other _ _ _ _ (by simp)]; exact g2
  · rw [World.frozen?_setCell, World.frozen?_setCell]; exact fz o
  · rw [List.map_append]
    exact ownInts_keepB ho (fun b e => e2 b (fun e3 => nv (by rw [← e3]; exact e)))
  · rw [List.map_append]
    refine ownTys_keepB ht (by simp) (fun b hp _ => e2 b ?_)
    rcases hp with hp | hp
    · exact hp.2.1
    · exact fun e3 => nt (by rw [← e3]; exact hp)
  · rcases hk with rfl | e | e
    · exact .inl (.inl rfl)
    · rcases vn with e3 | ⟨g, e3, hg⟩
      · exact .inl (.inr (.inl (by rw [e, e3])))
      · rw [e3] at e; cases e; exact .inr hg
    · rcases tn with e3 | ⟨g, e3, hg⟩
      · exact .inl (.inr (.inr (by rw [e, e3])))
      · rw [e3] at e; cases e; exact .inr hg
  · exact (hbel.setCell (p := ⟨sb, 0, none⟩) hsb _).setCell (p := ⟨sb, 1, none⟩) hsb _

set_option maxRecDepth 100000 in
set_option maxHeartbeats 8000000 in
theorem rsay_any (w : World) (B : Nat) (Z : Nat → Prop) (sb : Nat) (vv tt : Value) (D : Said) (N : Int) (h : Sub9 w B Z sb vv tt D N) (n : Int) (hn : Em5.I64 n) (T : Ty) (v : Value) (hv : IsTyP (fun b => Z b ∧ ¬ SubOf sb vv tt b) w T v) (hl : (tvars T []).length ≤ 1000000) (hdl : D.length < 1000000) :
    Calls Try.prog 31 #[.pointer (some ⟨sb, 0, none⟩), .int .i64 n, v] w fun e w' =>
      (tocc n T ∧ e = .returned (.bool (decide (T.op = tVar))) ∧ Sub9 w' B Z sb vv tt D N ∧ Below w.heap.size w w') ∨
      (¬ tocc n T ∧ e = .returned (.bool true) ∧ (∃ v' t', Sub9 w' B Z sb v' t' (D ++ [(n, T)]) N ∧ ∀ k, SubOf sb v' t' k → SubOf sb vv tt k ∨ w.heap.size ≤ k) ∧ Below B w w' ∧ ∀ k, k < w.heap.size → ¬ SubOf sb vv tt k → w'.heap[k]? = w.heap[k]?) := by
  have HS : Hid (Sub9 w B Z sb vv tt D N) := h
  have HV : Hid (IsTyP (fun b => Z b ∧ ¬ SubOf sb vv tt b) w T v) := hv
  have HL : Hid ((tvars T []).length ≤ 1000000) := hl
  have HN : Hid (Em5.I64 n) := hn
  have hT := hv
  obtain ⟨op, tn, tl⟩ := T
  unfold IsTyP at hT
  obtain ⟨a, cap, rfl, t1, -⟩ := hT
  obtain ⟨W, hW⟩ : ∃ W, W = w.alloc (.cells #[.string (Em.str op), .int .i64 tn, .slice a tl.length cap] 25) := ⟨_, rfl⟩
  have hbW : Below w.heap.size w W := by rw [hW]; exact (Below.refl _ _).alloc (Nat.le_refl _) _
  have hWz : w.heap.size < W.heap.size := by rw [hW]; simp
  have k0 : W.cell? ⟨w.heap.size, 0, none⟩ = some (.string (Em.str op)) := by rw [hW]; simp
  have k1 : W.cell? ⟨w.heap.size, 1, none⟩ = some (.int .i64 tn) := by rw [hW]; simp
  have k2 : W.cell? ⟨w.heap.size, 2, none⟩ = some (.slice a tl.length cap) := by rw [hW]; simp
  have HWE : Hid (w.alloc (.cells #[.string (Em.str op), .int .i64 tn, .slice a tl.length cap] 25) = W) := hW.symm
  have HW : Hid (Below w.heap.size w W ∧ w.heap.size < W.heap.size) := ⟨hbW, hWz⟩
  have HKK : Hid (∀ w', Below W.heap.size W w' → w'.cell? ⟨w.heap.size, 0, none⟩ = some (.string (Em.str op)) ∧ w'.cell? ⟨w.heap.size, 1, none⟩ = some (.int .i64 tn) ∧ w'.cell? ⟨w.heap.size, 2, none⟩ = some (.slice a tl.length cap)) := fun w' hb => by
    have key : ∀ o, w'.cell? ⟨w.heap.size, o, none⟩ = W.cell? ⟨w.heap.size, o, none⟩ := fun o => hb.cell (p := ⟨w.heap.size, o, none⟩) hWz
    exact ⟨by rw [key]; exact k0, by rw [key]; exact k1, by rw [key]; exact k2⟩
  obtain ⟨b0, hb0⟩ : ∃ b0, b0 = decide (op = tVar) := ⟨_, rfl⟩
  have hq : ((Em.str op).toList == [118, 97, 114]) = b0 := by rw [Em5.str_eq t1.1, hb0]; rfl
  have HB0 : Hid (decide ((Ty.mk op tn tl).op = tVar) = b0) := hb0.symm
  obtain ⟨T, hTe⟩ : ∃ T, T = Ty.mk op tn tl := ⟨_, rfl⟩
  rw [← hTe] at HV HL HB0 ⊢
  clear hW h hv hl hn t1 hb0 hTe
  go_enter Try.func31, Try.ntmps31
  go_upto_region 1 with fail
  rw [HWE.out]
  clear HWE
  go_wp2_with fail
  refine (rtVars_len T _ _ (isTy_below hbW _ _ (isTyP_is _ _ HV.out)) HL.out).mono ?_
  rintro e w1 ⟨u1, rfl, ho1, hi1, hb1⟩
  have hI1 := ho1.is hi1
  obtain ⟨ua, uc, rfl⟩ := ho1.form
  clear k0 k1 k2 ho1 hi1
  go_wp2_with fail
  refine (rtHas_any _ _ n _ hI1).mono ?_
  rintro e w2 ⟨rfl, rfl⟩
  have HO : Hid (n ∈ tvars T [] ↔ tocc n T) := by rw [Hid, tvars_iff]; simp
  have HB1 : Hid (Below W.heap.size W w2 ∧ Below w.heap.size w w2) := ⟨hb1, hbW.trans (hb1.mono hbW.size)⟩
  obtain ⟨k0, k1, k2⟩ := HKK.out _ hb1
  clear hI1 hb1 hbW
  by_cases hm : n ∈ tvars T []
  · rw [decide_eq_true hm]
    have HR : Hid (tocc n T) := HO.out.1 hm
    clear hm
    go_wp2_with fail
    go_ret
    exact .inl ⟨HR.out, by rw [HB0.out]; rfl, HS.out.below HB1.out.2, HB1.out.2⟩
  · rw [decide_eq_false hm]
    have HR : Hid (¬ tocc n T) := fun h => hm (HO.out.2 h)
    clear hm
    have hS2 := HS.out.below HB1.out.2
    have hB2 : B ≤ w2.heap.size := Nat.le_trans (Nat.le_trans hS2.hsb (Nat.le_of_lt (HS.out.lt))) HB1.out.2.size
    have hI : SayI w2 w2 B Z sb vv tt vv tt (D.map (·.1)) (D.map (·.2)) N T (.agg #[.string (Em.str op), .int .i64 tn, .slice a tl.length cap]) := hS2.say hB2 (isTyP_keep HB1.out.2.size (fun b hp hl => ⟨HB1.out.2.block b hl, hp⟩) _ _ HV.out)
    have hI0 := hI.below ((Below.refl _ _).drew)
    have HNS : Hid (¬ SubOf sb vv tt w.heap.size) := fun h => absurd (HS.out.of_lt h).2 (by omega)
    have hwl : w.heap.size < w2.heap.size := Nat.lt_of_lt_of_le HW.out.2 HB1.out.1.size
    have HBX : Hid (∀ X : World, (∀ k, k < w2.heap.size → ¬ SubOf sb vv tt k → X.heap[k]? = w2.heap[k]?) → X.cell? ⟨w.heap.size, 0, none⟩ = some (.string (Em.str op)) ∧ X.cell? ⟨w.heap.size, 1, none⟩ = some (.int .i64 tn) ∧ X.cell? ⟨w.heap.size, 2, none⟩ = some (.slice a tl.length cap)) := fun X h => by
      have e := h w.heap.size hwl HNS.out
      have key : ∀ o, X.cell? ⟨w.heap.size, o, none⟩ = w2.cell? ⟨w.heap.size, o, none⟩ := fun o => World.cell?_of_block (w := w2) (a := ⟨w.heap.size, o, none⟩) e
      exact ⟨by rw [key]; exact k0, by rw [key]; exact k1, by rw [key]; exact k2⟩
    obtain ⟨va, vc, hvv⟩ : ∃ va vc, vv = .slice va D.length vc := by
      obtain ⟨x, y, e⟩ := HS.out.own.form
      exact ⟨x, y, by rw [e]; simp⟩
    obtain ⟨ta, tc, htt⟩ : ∃ ta tc, tt = .slice ta D.length tc := by
      obtain ⟨x, y, e, -, -⟩ := ownTys_form HS.out.tys
      exact ⟨x, y, by rw [e]; simp⟩
    have s0 := hI.c0
    have s1 := hI.c1
    have hsl := hI.sbl
    have hdl1 : (D.map (·.1)).length ≤ 1000000 := by simp; omega
    have hdl2 : (D.map (·.2)).length ≤ 1000000 := by simp; omega
    have HI0 : Hid (SayI w2 w2.drew B Z sb vv tt vv tt (D.map (·.1)) (D.map (·.2)) N T (.agg #[.string (Em.str op), .int .i64 tn, .slice a tl.length cap])) := hI0
    clear hI0 hI hS2
    subst hvv htt
    have HVN0 : Hid (some w2.heap.size ≠ (Value.slice va D.length vc).ownBlock) := fun e => absurd (World.ownsRow.lt HI0.out.own _ e.symm).2 (Nat.lt_irrefl _)
    have HVN1 : Hid (some (w2.heap.size + 1) ≠ (Value.slice va D.length vc).ownBlock) := fun e => absurd (World.ownsRow.lt HI0.out.own _ e.symm).2 (Nat.not_lt.2 (Nat.le_succ w2.heap.size))
    have hsb' : B ≤ sb := HS.out.hsb
    have hi64 : (∀ p ∈ D ++ [(n, T)], Em5.I64 p.1) ∧ D.length + 1 ≤ 1000000 := ⟨fun p hp => by
      rcases List.mem_append.1 hp with hp | hp
      · exact HS.out.i64 p hp
      · simp at hp; subst hp; exact HN.out, by omega⟩
    have HFIN : Hid (∀ (v' t' : Value) (X : World), (Sub9 X B Z sb v' t' (D ++ [(n, T)]) N ∧ (∀ k, SubOf sb v' t' k → SubOf sb (.slice va D.length vc) (.slice ta D.length tc) k ∨ w2.heap.size ≤ k) ∧ Below B w2 X ∧ ∀ k, k < w2.heap.size → ¬ SubOf sb (.slice va D.length vc) (.slice ta D.length tc) k → X.heap[k]? = w2.heap[k]?) →
      (∃ v' t', Sub9 X B Z sb v' t' (D ++ [(n, T)]) N ∧ ∀ k, SubOf sb v' t' k → SubOf sb (.slice va D.length vc) (.slice ta D.length tc) k ∨ w.heap.size ≤ k) ∧ Below B w X ∧ ∀ k, k < w.heap.size → ¬ SubOf sb (.slice va D.length vc) (.slice ta D.length tc) k → X.heap[k]? = w.heap[k]?) := fun v' t' X h => by
      have hz := HB1.out.2.size
      have hBw : B ≤ w.heap.size := Nat.le_trans hsb' (Nat.le_of_lt HS.out.lt)
      exact ⟨⟨v', t', h.1, fun k hk => (h.2.1 k hk).imp id (fun e => Nat.le_trans hz e)⟩, (HB1.out.2.mono hBw).trans h.2.2.1, fun k hk hn => (h.2.2.2 k (Nat.lt_of_lt_of_le hk hz) hn).trans (HB1.out.2.block k hk)⟩
    clear hdl
    go_wp2_with fail
    refine wp_region_held_drew (S := fun w' => w'.cell? ⟨w.heap.size, 0, none⟩ = some (.string (Em.str op)) ∧ w'.cell? ⟨w.heap.size, 1, none⟩ = some (.int .i64 tn) ∧ w'.cell? ⟨w.heap.size, 2, none⟩ = some (.slice a tl.length cap)) (by kernel_rfl) (HBX.out _ HI0.out.blk) (fun hHeld => ?_)
    refine wpAnyH_take (i := 0) (v := ?_) rfl (by kernel_rfl) (by kernel_rfl) (by kernel_rfl) (fun _ _ _ h => h) (Or.inl ⟨by rfl, ?_⟩) (by assumption) ?_
    rotate_left
    · (intro w hSw; (try dsimp only at hSw); go_simp); all_goals (with_reducible rfl)
    simp only [List.getElem_toArray, List.getElem_cons_succ, List.getElem_cons_zero, Act.put, List.setIfInBounds_toArray, List.set_cons_zero, List.set_cons_succ]
    refine wpAnyH_take (i := 1) (v := ?_) rfl (by kernel_rfl) (by kernel_rfl) (by kernel_rfl) (fun _ _ _ h => h) (Or.inl ⟨by rfl, ?_⟩) (by assumption) ?_
    rotate_left
    · (intro w hSw; (try dsimp only at hSw); go_simp); all_goals (with_reducible rfl)
    simp only [List.getElem_toArray, List.getElem_cons_succ, List.getElem_cons_zero, Act.put, List.setIfInBounds_toArray, List.set_cons_zero, List.set_cons_succ]
    refine wpAnyH_take (i := 2) (v := ?_) rfl (by kernel_rfl) (by kernel_rfl) (by kernel_rfl) (fun _ _ _ h => h) (Or.inl ⟨by rfl, ?_⟩) (by assumption) ?_
    rotate_left
    · (intro w hSw; (try dsimp only at hSw); go_simp); all_goals (with_reducible rfl)
    simp only [List.getElem_toArray, List.getElem_cons_succ, List.getElem_cons_zero, Act.put, List.setIfInBounds_toArray, List.set_cons_zero, List.set_cons_succ]
    refine wpAnyH_take (i := 3) (v := ?_) rfl (by kernel_rfl) (by kernel_rfl) (by kernel_rfl) (fun _ _ _ h => h) (Or.inl ⟨by rfl, ?_⟩) (by assumption) ?_
    rotate_left
    · (intro w hSw; (try dsimp only at hSw); go_simp); all_goals (with_reducible rfl)
    simp only [List.getElem_toArray, List.getElem_cons_succ, List.getElem_cons_zero, Act.put, List.setIfInBounds_toArray, List.set_cons_zero, List.set_cons_succ]
    refine wpAnyH_take (i := 4) (v := ?_) rfl (by kernel_rfl) (by kernel_rfl) (by kernel_rfl) (fun _ _ _ h => h) (Or.inl ⟨by rfl, ?_⟩) (by assumption) ?_
    rotate_left
    · (intro w hSw; (try dsimp only at hSw); go_simp); all_goals (with_reducible rfl)
    simp only [List.getElem_toArray, List.getElem_cons_succ, List.getElem_cons_zero, Act.put, List.setIfInBounds_toArray, List.set_cons_zero, List.set_cons_succ]
    refine wpAnyH_take (i := 6) (v := ?_) rfl (by kernel_rfl) (by kernel_rfl) (by kernel_rfl) (fun _ _ _ h => h) (Or.inl ⟨by rfl, ?_⟩) (by assumption) ?_
    rotate_left
    · (intro w hSw; (try dsimp only at hSw); go_simp); all_goals (with_reducible rfl)
    simp only [List.getElem_toArray, List.getElem_cons_succ, List.getElem_cons_zero, Act.put, List.setIfInBounds_toArray, List.set_cons_zero, List.set_cons_succ]
    refine wpAnyH_take (i := 9) (v := ?_) rfl (by kernel_rfl) (by kernel_rfl) (by kernel_rfl) (fun _ _ _ h => h) (Or.inl ⟨by rfl, ?_⟩) (by assumption) ?_
    rotate_left
    · (intro w hSw; (try dsimp only at hSw); go_simp); all_goals (with_reducible rfl)
    simp only [List.getElem_toArray, List.getElem_cons_succ, List.getElem_cons_zero, Act.put, List.setIfInBounds_toArray, List.set_cons_zero, List.set_cons_succ]
    refine wpAnyH_take (i := 10) (v := ?_) rfl (by kernel_rfl) (by kernel_rfl) (by kernel_rfl) (fun _ _ _ h => h) (Or.inl ⟨by rfl, ?_⟩) (by assumption) ?_
    rotate_left
    · (intro w hSw; (try dsimp only at hSw); go_simp); all_goals (with_reducible rfl)
    simp only [List.getElem_toArray, List.getElem_cons_succ, List.getElem_cons_zero, Act.put, List.setIfInBounds_toArray, List.set_cons_zero, List.set_cons_succ]
    refine wpAnyH_take (i := 11) (v := ?_) rfl (by kernel_rfl) (by kernel_rfl) (by kernel_rfl) (fun _ _ _ h => h) (Or.inl ⟨by rfl, ?_⟩) (by assumption) ?_
    rotate_left
    · (intro w hSw; (try dsimp only at hSw); go_simp); all_goals (with_reducible rfl)
    simp only [List.getElem_toArray, List.getElem_cons_succ, List.getElem_cons_zero, Act.put, List.setIfInBounds_toArray, List.set_cons_zero, List.set_cons_succ]
    refine wpAnyH_take (i := 13) (v := ?_) rfl (by kernel_rfl) (by kernel_rfl) (by kernel_rfl) (fun _ _ _ h => h) (Or.inl ⟨by rfl, ?_⟩) (by assumption) ?_
    rotate_left
    · (intro w hSw; (try dsimp only at hSw); go_simp); all_goals (with_reducible rfl)
    simp only [List.getElem_toArray, List.getElem_cons_succ, List.getElem_cons_zero, Act.put, List.setIfInBounds_toArray, List.set_cons_zero, List.set_cons_succ]
    refine wpAnyH_ready (rs := [5, 7, 12, 14]) (by kernel_rfl) (by simp) (AllReadyH.cons rfl (fun K hK => ?_) (AllReadyH.cons rfl (fun K hK => ?_) (AllReadyH.cons rfl (fun K hK => ?_) (AllReadyH.cons rfl (fun K hK => ?_) AllReadyH.nil))))
    ·
      have hcc := HI0.out.c0
      go_simp
      refine hK.out _ _ (HBX.out _ HI0.out.blk) (fun hHeld => ?_)
      clear hK K hcc
      refine wpAnyH_ready (rs := [7, 12, 14]) (by kernel_rfl) (by simp) (AllReadyH.cons rfl (fun K hK => ?_) (AllReadyH.cons rfl (fun K hK => ?_) (AllReadyH.cons rfl (fun K hK => ?_) AllReadyH.nil)))
      ·
        go_simp
        refine hK.out _ _ (HBX.out _ (HI0.out.alloc (.cells #[.int .i64 n] 3)).blk) (fun hHeld => ?_)
        clear hK K
        refine wpAnyH_ready (rs := [8, 12, 14]) (by kernel_rfl) (by simp) (AllReadyH.cons rfl (fun K hK => ?_) (AllReadyH.cons rfl (fun K hK => ?_) (AllReadyH.cons rfl (fun K hK => ?_) AllReadyH.nil)))
        ·
          refine step_sayV (w := w2) (by rfl) _ _ (by rfl) n _ (by rfl) (by rfl) (HI0.out.alloc (.cells #[.int .i64 n] 3)) (by simp [go_sem]) hdl1 ?_
          intro v5 X5 hI5 hg5
          obtain ⟨xa, xc, hxe⟩ := hI5.own.form
          have hxf : v5 = .slice xa (D.length + 1) xc := by rw [hxe]; simp
          subst hxf
          have HI5 : Hid (SayI w2 X5 B Z sb (.slice va D.length vc) (.slice ta D.length tc) (.slice xa (D.length + 1) xc) (.slice ta D.length tc) (D.map (·.1) ++ [n]) (D.map (·.2)) N T (.agg #[.string (Em.str op), .int .i64 tn, .slice a tl.length cap])) := hI5
          refine hK.out _ _ (HBX.out _ hI5.blk) (fun hHeld => ?_)
          clear hK K hxe hI5 hg5
          refine wpAnyH_ready (rs := [12, 14]) (by kernel_rfl) (by simp) (AllReadyH.cons rfl (fun K hK => ?_) (AllReadyH.cons rfl (fun K hK => ?_) AllReadyH.nil))
          ·
            have hcc := HI5.out.c1
            go_simp
            refine hK.out _ _ (HBX.out _ HI5.out.blk) (fun hHeld => ?_)
            clear hK K hcc
            refine wpAnyH_ready (rs := [14]) (by kernel_rfl) (by simp) (AllReadyH.cons rfl (fun K hK => ?_) AllReadyH.nil)
            go_simp
            refine hK.out _ _ (HBX.out _ (HI5.out.alloc (.cells #[.string (Em.str op), .int .i64 tn, .slice a tl.length cap] 25)).blk) (fun hHeld => ?_)
            clear hK K
            refine wpAnyH_ready (rs := [15]) (by kernel_rfl) (by simp) (AllReadyH.cons rfl (fun K hK => ?_) AllReadyH.nil)
            refine step_sayT (w := w2) (by rfl) _ _ (by rfl) _ (by rfl) (by rfl) (HI5.out.alloc (.cells #[.string (Em.str op), .int .i64 tn, .slice a tl.length cap] 25)) ⟨by simp [go_sem], by simp [go_sem], by simp [go_sem]⟩ hdl2 ?_
            intro t6 X6 h6
            obtain ⟨ya, yc, hye, -, -⟩ := ownTys_form h6.2.2.1
            have hyf : t6 = .slice ya (D.length + 1) yc := by rw [hye]; simp
            subst hyf
            have s06 := h6.1.1
            have s16 := h6.1.2.1
            have f6 := h6.1.2.2.2
            have HE6 : Hid _ := say_done HI5.out.nv hsb' HI5.out.vn hi64 h6
            refine hK.out _ _ (HBX.out _ HE6.out.2.1) (fun hHeld => ?_)
            clear hK K hye h6
            refine wpAnyH_take (i := 16) (v := ?_) rfl (by kernel_rfl) (by kernel_rfl) (by kernel_rfl) (fun _ _ _ h => h) (Or.inl ⟨by rfl, ?_⟩) (by assumption) ?_
            rotate_left
            · (intro w hSw; (try dsimp only at hSw); go_simp); all_goals (with_reducible rfl)
            simp only [List.getElem_toArray, List.getElem_cons_succ, List.getElem_cons_zero, Act.put, List.setIfInBounds_toArray, List.set_cons_zero, List.set_cons_succ]
            refine wpAnyH_take (i := 17) (v := ?_) rfl (by kernel_rfl) (by kernel_rfl) (by kernel_rfl) (fun _ _ _ h => h) (Or.inl ⟨by rfl, ?_⟩) (by assumption) ?_
            rotate_left
            · (intro w hSw; (try dsimp only at hSw); go_simp); all_goals (with_reducible rfl)
            simp only [List.getElem_toArray, List.getElem_cons_succ, List.getElem_cons_zero, Act.put, List.setIfInBounds_toArray, List.set_cons_zero, List.set_cons_succ]
            refine wpAnyH_ready (rs := [18]) (by kernel_rfl) (by simp) (AllReadyH.cons rfl (fun K hK => ?_) AllReadyH.nil)
            go_simp
            refine hK.out _ _ (HBX.out _ HE6.out.2.2.1) (fun hHeld => ?_)
            clear hK K
            refine wpAnyH_take (i := 19) (v := ?_) rfl (by kernel_rfl) (by kernel_rfl) (by kernel_rfl) (fun _ _ _ h => h) (Or.inl ⟨by rfl, ?_⟩) (by assumption) ?_
            rotate_left
            · (intro w hSw; (try dsimp only at hSw); go_simp); all_goals (with_reducible rfl)
            simp only [List.getElem_toArray, List.getElem_cons_succ, List.getElem_cons_zero, Act.put, List.setIfInBounds_toArray, List.set_cons_zero, List.set_cons_succ]
            refine wpAnyH_take (i := 20) (v := ?_) rfl (by kernel_rfl) (by kernel_rfl) (by kernel_rfl) (fun _ _ _ h => h) (Or.inl ⟨by rfl, ?_⟩) (by assumption) ?_
            rotate_left
            · (intro w hSw; (try dsimp only at hSw); go_simp); all_goals (with_reducible rfl)
            simp only [List.getElem_toArray, List.getElem_cons_succ, List.getElem_cons_zero, Act.put, List.setIfInBounds_toArray, List.set_cons_zero, List.set_cons_succ]
            refine wpAnyH_ready (rs := [21]) (by kernel_rfl) (by simp) (AllReadyH.cons rfl (fun K hK => ?_) AllReadyH.nil)
            go_simp
            refine hK.out _ _ (HBX.out _ HE6.out.2.2.2) (fun hHeld => ?_)
            clear hK K
            refine wpAnyH_done (by kernel_rfl) ?_ _
            go_wp2_with fail
            go_ret
            exact .inr ⟨HR.out, rfl, HFIN.out _ _ _ HE6.out.1⟩
          ·
            go_simp
            refine hK.out _ _ (HBX.out _ (HI5.out.alloc (.cells #[.string (Em.str op), .int .i64 tn, .slice a tl.length cap] 25)).blk) (fun hHeld => ?_)
            clear hK K
            refine wpAnyH_ready (rs := [12]) (by kernel_rfl) (by simp) (AllReadyH.cons rfl (fun K hK => ?_) AllReadyH.nil)
            have hcc := (HI5.out.alloc (.cells #[.string (Em.str op), .int .i64 tn, .slice a tl.length cap] 25)).c1
            go_simp
            refine hK.out _ _ (HBX.out _ (HI5.out.alloc (.cells #[.string (Em.str op), .int .i64 tn, .slice a tl.length cap] 25)).blk) (fun hHeld => ?_)
            clear hK K hcc
            refine wpAnyH_ready (rs := [15]) (by kernel_rfl) (by simp) (AllReadyH.cons rfl (fun K hK => ?_) AllReadyH.nil)
            refine step_sayT (w := w2) (by rfl) _ _ (by rfl) _ (by rfl) (by rfl) (HI5.out.alloc (.cells #[.string (Em.str op), .int .i64 tn, .slice a tl.length cap] 25)) ⟨by simp [go_sem], by simp [go_sem], by simp [go_sem]⟩ hdl2 ?_
            intro t6 X6 h6
            obtain ⟨ya, yc, hye, -, -⟩ := ownTys_form h6.2.2.1
            have hyf : t6 = .slice ya (D.length + 1) yc := by rw [hye]; simp
            subst hyf
            have s06 := h6.1.1
            have s16 := h6.1.2.1
            have f6 := h6.1.2.2.2
            have HE6 : Hid _ := say_done HI5.out.nv hsb' HI5.out.vn hi64 h6
            refine hK.out _ _ (HBX.out _ HE6.out.2.1) (fun hHeld => ?_)
            clear hK K hye h6
            refine wpAnyH_take (i := 16) (v := ?_) rfl (by kernel_rfl) (by kernel_rfl) (by kernel_rfl) (fun _ _ _ h => h) (Or.inl ⟨by rfl, ?_⟩) (by assumption) ?_
            rotate_left
            · (intro w hSw; (try dsimp only at hSw); go_simp); all_goals (with_reducible rfl)
            simp only [List.getElem_toArray, List.getElem_cons_succ, List.getElem_cons_zero, Act.put, List.setIfInBounds_toArray, List.set_cons_zero, List.set_cons_succ]
            refine wpAnyH_take (i := 17) (v := ?_) rfl (by kernel_rfl) (by kernel_rfl) (by kernel_rfl) (fun _ _ _ h => h) (Or.inl ⟨by rfl, ?_⟩) (by assumption) ?_
            rotate_left
            · (intro w hSw; (try dsimp only at hSw); go_simp); all_goals (with_reducible rfl)
            simp only [List.getElem_toArray, List.getElem_cons_succ, List.getElem_cons_zero, Act.put, List.setIfInBounds_toArray, List.set_cons_zero, List.set_cons_succ]
            refine wpAnyH_ready (rs := [18]) (by kernel_rfl) (by simp) (AllReadyH.cons rfl (fun K hK => ?_) AllReadyH.nil)
            go_simp
            refine hK.out _ _ (HBX.out _ HE6.out.2.2.1) (fun hHeld => ?_)
            clear hK K
            refine wpAnyH_take (i := 19) (v := ?_) rfl (by kernel_rfl) (by kernel_rfl) (by kernel_rfl) (fun _ _ _ h => h) (Or.inl ⟨by rfl, ?_⟩) (by assumption) ?_
            rotate_left
            · (intro w hSw; (try dsimp only at hSw); go_simp); all_goals (with_reducible rfl)
            simp only [List.getElem_toArray, List.getElem_cons_succ, List.getElem_cons_zero, Act.put, List.setIfInBounds_toArray, List.set_cons_zero, List.set_cons_succ]
            refine wpAnyH_take (i := 20) (v := ?_) rfl (by kernel_rfl) (by kernel_rfl) (by kernel_rfl) (fun _ _ _ h => h) (Or.inl ⟨by rfl, ?_⟩) (by assumption) ?_
            rotate_left
            · (intro w hSw; (try dsimp only at hSw); go_simp); all_goals (with_reducible rfl)
            simp only [List.getElem_toArray, List.getElem_cons_succ, List.getElem_cons_zero, Act.put, List.setIfInBounds_toArray, List.set_cons_zero, List.set_cons_succ]
            refine wpAnyH_ready (rs := [21]) (by kernel_rfl) (by simp) (AllReadyH.cons rfl (fun K hK => ?_) AllReadyH.nil)
            go_simp
            refine hK.out _ _ (HBX.out _ HE6.out.2.2.2) (fun hHeld => ?_)
            clear hK K
            refine wpAnyH_done (by kernel_rfl) ?_ _
            go_wp2_with fail
            go_ret
            exact .inr ⟨HR.out, rfl, HFIN.out _ _ _ HE6.out.1⟩
        ·
          have hcc := (HI0.out.alloc (.cells #[.int .i64 n] 3)).c1
          go_simp
          refine hK.out _ _ (HBX.out _ (HI0.out.alloc (.cells #[.int .i64 n] 3)).blk) (fun hHeld => ?_)
          clear hK K hcc
          refine wpAnyH_ready (rs := [8, 14]) (by kernel_rfl) (by simp) (AllReadyH.cons rfl (fun K hK => ?_) (AllReadyH.cons rfl (fun K hK => ?_) AllReadyH.nil))
          ·
            refine step_sayV (w := w2) (by rfl) _ _ (by rfl) n _ (by rfl) (by rfl) (HI0.out.alloc (.cells #[.int .i64 n] 3)) (by simp [go_sem]) hdl1 ?_
            intro v5 X5 hI5 hg5
            obtain ⟨xa, xc, hxe⟩ := hI5.own.form
            have hxf : v5 = .slice xa (D.length + 1) xc := by rw [hxe]; simp
            subst hxf
            have HI5 : Hid (SayI w2 X5 B Z sb (.slice va D.length vc) (.slice ta D.length tc) (.slice xa (D.length + 1) xc) (.slice ta D.length tc) (D.map (·.1) ++ [n]) (D.map (·.2)) N T (.agg #[.string (Em.str op), .int .i64 tn, .slice a tl.length cap])) := hI5
            refine hK.out _ _ (HBX.out _ hI5.blk) (fun hHeld => ?_)
            clear hK K hxe hI5 hg5
            refine wpAnyH_ready (rs := [14]) (by kernel_rfl) (by simp) (AllReadyH.cons rfl (fun K hK => ?_) AllReadyH.nil)
            go_simp
            refine hK.out _ _ (HBX.out _ (HI5.out.alloc (.cells #[.string (Em.str op), .int .i64 tn, .slice a tl.length cap] 25)).blk) (fun hHeld => ?_)
            clear hK K
            refine wpAnyH_ready (rs := [15]) (by kernel_rfl) (by simp) (AllReadyH.cons rfl (fun K hK => ?_) AllReadyH.nil)
            refine step_sayT (w := w2) (by rfl) _ _ (by rfl) _ (by rfl) (by rfl) (HI5.out.alloc (.cells #[.string (Em.str op), .int .i64 tn, .slice a tl.length cap] 25)) ⟨by simp [go_sem], by simp [go_sem], by simp [go_sem]⟩ hdl2 ?_
            intro t6 X6 h6
            obtain ⟨ya, yc, hye, -, -⟩ := ownTys_form h6.2.2.1
            have hyf : t6 = .slice ya (D.length + 1) yc := by rw [hye]; simp
            subst hyf
            have s06 := h6.1.1
            have s16 := h6.1.2.1
            have f6 := h6.1.2.2.2
            have HE6 : Hid _ := say_done HI5.out.nv hsb' HI5.out.vn hi64 h6
            refine hK.out _ _ (HBX.out _ HE6.out.2.1) (fun hHeld => ?_)
            clear hK K hye h6
            refine wpAnyH_take (i := 16) (v := ?_) rfl (by kernel_rfl) (by kernel_rfl) (by kernel_rfl) (fun _ _ _ h => h) (Or.inl ⟨by rfl, ?_⟩) (by assumption) ?_
            rotate_left
            · (intro w hSw; (try dsimp only at hSw); go_simp); all_goals (with_reducible rfl)
            simp only [List.getElem_toArray, List.getElem_cons_succ, List.getElem_cons_zero, Act.put, List.setIfInBounds_toArray, List.set_cons_zero, List.set_cons_succ]
            refine wpAnyH_take (i := 17) (v := ?_) rfl (by kernel_rfl) (by kernel_rfl) (by kernel_rfl) (fun _ _ _ h => h) (Or.inl ⟨by rfl, ?_⟩) (by assumption) ?_
            rotate_left
            · (intro w hSw; (try dsimp only at hSw); go_simp); all_goals (with_reducible rfl)
            simp only [List.getElem_toArray, List.getElem_cons_succ, List.getElem_cons_zero, Act.put, List.setIfInBounds_toArray, List.set_cons_zero, List.set_cons_succ]
            refine wpAnyH_ready (rs := [18]) (by kernel_rfl) (by simp) (AllReadyH.cons rfl (fun K hK => ?_) AllReadyH.nil)
            go_simp
            refine hK.out _ _ (HBX.out _ HE6.out.2.2.1) (fun hHeld => ?_)
            clear hK K
            refine wpAnyH_take (i := 19) (v := ?_) rfl (by kernel_rfl) (by kernel_rfl) (by kernel_rfl) (fun _ _ _ h => h) (Or.inl ⟨by rfl, ?_⟩) (by assumption) ?_
            rotate_left
            · (intro w hSw; (try dsimp only at hSw); go_simp); all_goals (with_reducible rfl)
            simp only [List.getElem_toArray, List.getElem_cons_succ, List.getElem_cons_zero, Act.put, List.setIfInBounds_toArray, List.set_cons_zero, List.set_cons_succ]
            refine wpAnyH_take (i := 20) (v := ?_) rfl (by kernel_rfl) (by kernel_rfl) (by kernel_rfl) (fun _ _ _ h => h) (Or.inl ⟨by rfl, ?_⟩) (by assumption) ?_
            rotate_left
            · (intro w hSw; (try dsimp only at hSw); go_simp); all_goals (with_reducible rfl)
            simp only [List.getElem_toArray, List.getElem_cons_succ, List.getElem_cons_zero, Act.put, List.setIfInBounds_toArray, List.set_cons_zero, List.set_cons_succ]
            refine wpAnyH_ready (rs := [21]) (by kernel_rfl) (by simp) (AllReadyH.cons rfl (fun K hK => ?_) AllReadyH.nil)
            go_simp
            refine hK.out _ _ (HBX.out _ HE6.out.2.2.2) (fun hHeld => ?_)
            clear hK K
            refine wpAnyH_done (by kernel_rfl) ?_ _
            go_wp2_with fail
            go_ret
            exact .inr ⟨HR.out, rfl, HFIN.out _ _ _ HE6.out.1⟩
          ·
            go_simp
            refine hK.out _ _ (HBX.out _ ((HI0.out.alloc (.cells #[.int .i64 n] 3)).alloc (.cells #[.string (Em.str op), .int .i64 tn, .slice a tl.length cap] 25)).blk) (fun hHeld => ?_)
            clear hK K
            refine wpAnyH_ready (rs := [8]) (by kernel_rfl) (by simp) (AllReadyH.cons rfl (fun K hK => ?_) AllReadyH.nil)
            refine step_sayV (w := w2) (by rfl) _ _ (by rfl) n _ (by rfl) (by rfl) ((HI0.out.alloc (.cells #[.int .i64 n] 3)).alloc (.cells #[.string (Em.str op), .int .i64 tn, .slice a tl.length cap] 25)) (by simp [go_sem]) hdl1 ?_
            intro v5 X5 hI5 hg5
            obtain ⟨xa, xc, hxe⟩ := hI5.own.form
            have hxf : v5 = .slice xa (D.length + 1) xc := by rw [hxe]; simp
            subst hxf
            have HI5 : Hid (SayI w2 X5 B Z sb (.slice va D.length vc) (.slice ta D.length tc) (.slice xa (D.length + 1) xc) (.slice ta D.length tc) (D.map (·.1) ++ [n]) (D.map (·.2)) N T (.agg #[.string (Em.str op), .int .i64 tn, .slice a tl.length cap])) := hI5
            have HT5 : Hid (X5.cell? ⟨w2.heap.size + 1, 0, none⟩ = some (.string (Em.str op)) ∧ X5.cell? ⟨w2.heap.size + 1, 1, none⟩ = some (.int .i64 tn) ∧ X5.cell? ⟨w2.heap.size + 1, 2, none⟩ = some (.slice a tl.length cap)) := ⟨hg5.cell (by simp [go_sem]) HVN1.out, hg5.cell (by simp [go_sem]) HVN1.out, hg5.cell (by simp [go_sem]) HVN1.out⟩
            refine hK.out _ _ (HBX.out _ hI5.blk) (fun hHeld => ?_)
            clear hK K hxe hI5 hg5
            refine wpAnyH_ready (rs := [15]) (by kernel_rfl) (by simp) (AllReadyH.cons rfl (fun K hK => ?_) AllReadyH.nil)
            refine step_sayT (w := w2) (by rfl) _ _ (by rfl) _ (by rfl) (by rfl) HI5.out HT5.out hdl2 ?_
            intro t6 X6 h6
            obtain ⟨ya, yc, hye, -, -⟩ := ownTys_form h6.2.2.1
            have hyf : t6 = .slice ya (D.length + 1) yc := by rw [hye]; simp
            subst hyf
            have s06 := h6.1.1
            have s16 := h6.1.2.1
            have f6 := h6.1.2.2.2
            have HE6 : Hid _ := say_done HI5.out.nv hsb' HI5.out.vn hi64 h6
            refine hK.out _ _ (HBX.out _ HE6.out.2.1) (fun hHeld => ?_)
            clear hK K hye h6
            refine wpAnyH_take (i := 16) (v := ?_) rfl (by kernel_rfl) (by kernel_rfl) (by kernel_rfl) (fun _ _ _ h => h) (Or.inl ⟨by rfl, ?_⟩) (by assumption) ?_
            rotate_left
            · (intro w hSw; (try dsimp only at hSw); go_simp); all_goals (with_reducible rfl)
            simp only [List.getElem_toArray, List.getElem_cons_succ, List.getElem_cons_zero, Act.put, List.setIfInBounds_toArray, List.set_cons_zero, List.set_cons_succ]
            refine wpAnyH_take (i := 17) (v := ?_) rfl (by kernel_rfl) (by kernel_rfl) (by kernel_rfl) (fun _ _ _ h => h) (Or.inl ⟨by rfl, ?_⟩) (by assumption) ?_
            rotate_left
            · (intro w hSw; (try dsimp only at hSw); go_simp); all_goals (with_reducible rfl)
            simp only [List.getElem_toArray, List.getElem_cons_succ, List.getElem_cons_zero, Act.put, List.setIfInBounds_toArray, List.set_cons_zero, List.set_cons_succ]
            refine wpAnyH_ready (rs := [18]) (by kernel_rfl) (by simp) (AllReadyH.cons rfl (fun K hK => ?_) AllReadyH.nil)
            go_simp
            refine hK.out _ _ (HBX.out _ HE6.out.2.2.1) (fun hHeld => ?_)
            clear hK K
            refine wpAnyH_take (i := 19) (v := ?_) rfl (by kernel_rfl) (by kernel_rfl) (by kernel_rfl) (fun _ _ _ h => h) (Or.inl ⟨by rfl, ?_⟩) (by assumption) ?_
            rotate_left
            · (intro w hSw; (try dsimp only at hSw); go_simp); all_goals (with_reducible rfl)
            simp only [List.getElem_toArray, List.getElem_cons_succ, List.getElem_cons_zero, Act.put, List.setIfInBounds_toArray, List.set_cons_zero, List.set_cons_succ]
            refine wpAnyH_take (i := 20) (v := ?_) rfl (by kernel_rfl) (by kernel_rfl) (by kernel_rfl) (fun _ _ _ h => h) (Or.inl ⟨by rfl, ?_⟩) (by assumption) ?_
            rotate_left
            · (intro w hSw; (try dsimp only at hSw); go_simp); all_goals (with_reducible rfl)
            simp only [List.getElem_toArray, List.getElem_cons_succ, List.getElem_cons_zero, Act.put, List.setIfInBounds_toArray, List.set_cons_zero, List.set_cons_succ]
            refine wpAnyH_ready (rs := [21]) (by kernel_rfl) (by simp) (AllReadyH.cons rfl (fun K hK => ?_) AllReadyH.nil)
            go_simp
            refine hK.out _ _ (HBX.out _ HE6.out.2.2.2) (fun hHeld => ?_)
            clear hK K
            refine wpAnyH_done (by kernel_rfl) ?_ _
            go_wp2_with fail
            go_ret
            exact .inr ⟨HR.out, rfl, HFIN.out _ _ _ HE6.out.1⟩
        ·
          go_simp
          refine hK.out _ _ (HBX.out _ ((HI0.out.alloc (.cells #[.int .i64 n] 3)).alloc (.cells #[.string (Em.str op), .int .i64 tn, .slice a tl.length cap] 25)).blk) (fun hHeld => ?_)
          clear hK K
          refine wpAnyH_ready (rs := [8, 12]) (by kernel_rfl) (by simp) (AllReadyH.cons rfl (fun K hK => ?_) (AllReadyH.cons rfl (fun K hK => ?_) AllReadyH.nil))
          ·
            refine step_sayV (w := w2) (by rfl) _ _ (by rfl) n _ (by rfl) (by rfl) ((HI0.out.alloc (.cells #[.int .i64 n] 3)).alloc (.cells #[.string (Em.str op), .int .i64 tn, .slice a tl.length cap] 25)) (by simp [go_sem]) hdl1 ?_
            intro v5 X5 hI5 hg5
            obtain ⟨xa, xc, hxe⟩ := hI5.own.form
            have hxf : v5 = .slice xa (D.length + 1) xc := by rw [hxe]; simp
            subst hxf
            have HI5 : Hid (SayI w2 X5 B Z sb (.slice va D.length vc) (.slice ta D.length tc) (.slice xa (D.length + 1) xc) (.slice ta D.length tc) (D.map (·.1) ++ [n]) (D.map (·.2)) N T (.agg #[.string (Em.str op), .int .i64 tn, .slice a tl.length cap])) := hI5
            have HT5 : Hid (X5.cell? ⟨w2.heap.size + 1, 0, none⟩ = some (.string (Em.str op)) ∧ X5.cell? ⟨w2.heap.size + 1, 1, none⟩ = some (.int .i64 tn) ∧ X5.cell? ⟨w2.heap.size + 1, 2, none⟩ = some (.slice a tl.length cap)) := ⟨hg5.cell (by simp [go_sem]) HVN1.out, hg5.cell (by simp [go_sem]) HVN1.out, hg5.cell (by simp [go_sem]) HVN1.out⟩
            refine hK.out _ _ (HBX.out _ hI5.blk) (fun hHeld => ?_)
            clear hK K hxe hI5 hg5
            refine wpAnyH_ready (rs := [12]) (by kernel_rfl) (by simp) (AllReadyH.cons rfl (fun K hK => ?_) AllReadyH.nil)
            have hcc := HI5.out.c1
            go_simp
            refine hK.out _ _ (HBX.out _ HI5.out.blk) (fun hHeld => ?_)
            clear hK K hcc
            refine wpAnyH_ready (rs := [15]) (by kernel_rfl) (by simp) (AllReadyH.cons rfl (fun K hK => ?_) AllReadyH.nil)
            refine step_sayT (w := w2) (by rfl) _ _ (by rfl) _ (by rfl) (by rfl) HI5.out HT5.out hdl2 ?_
            intro t6 X6 h6
            obtain ⟨ya, yc, hye, -, -⟩ := ownTys_form h6.2.2.1
            have hyf : t6 = .slice ya (D.length + 1) yc := by rw [hye]; simp
            subst hyf
            have s06 := h6.1.1
            have s16 := h6.1.2.1
            have f6 := h6.1.2.2.2
            have HE6 : Hid _ := say_done HI5.out.nv hsb' HI5.out.vn hi64 h6
            refine hK.out _ _ (HBX.out _ HE6.out.2.1) (fun hHeld => ?_)
            clear hK K hye h6
            refine wpAnyH_take (i := 16) (v := ?_) rfl (by kernel_rfl) (by kernel_rfl) (by kernel_rfl) (fun _ _ _ h => h) (Or.inl ⟨by rfl, ?_⟩) (by assumption) ?_
            rotate_left
            · (intro w hSw; (try dsimp only at hSw); go_simp); all_goals (with_reducible rfl)
            simp only [List.getElem_toArray, List.getElem_cons_succ, List.getElem_cons_zero, Act.put, List.setIfInBounds_toArray, List.set_cons_zero, List.set_cons_succ]
            refine wpAnyH_take (i := 17) (v := ?_) rfl (by kernel_rfl) (by kernel_rfl) (by kernel_rfl) (fun _ _ _ h => h) (Or.inl ⟨by rfl, ?_⟩) (by assumption) ?_
            rotate_left
            · (intro w hSw; (try dsimp only at hSw); go_simp); all_goals (with_reducible rfl)
            simp only [List.getElem_toArray, List.getElem_cons_succ, List.getElem_cons_zero, Act.put, List.setIfInBounds_toArray, List.set_cons_zero, List.set_cons_succ]
            refine wpAnyH_ready (rs := [18]) (by kernel_rfl) (by simp) (AllReadyH.cons rfl (fun K hK => ?_) AllReadyH.nil)
            go_simp
            refine hK.out _ _ (HBX.out _ HE6.out.2.2.1) (fun hHeld => ?_)
            clear hK K
            refine wpAnyH_take (i := 19) (v := ?_) rfl (by kernel_rfl) (by kernel_rfl) (by kernel_rfl) (fun _ _ _ h => h) (Or.inl ⟨by rfl, ?_⟩) (by assumption) ?_
            rotate_left
            · (intro w hSw; (try dsimp only at hSw); go_simp); all_goals (with_reducible rfl)
            simp only [List.getElem_toArray, List.getElem_cons_succ, List.getElem_cons_zero, Act.put, List.setIfInBounds_toArray, List.set_cons_zero, List.set_cons_succ]
            refine wpAnyH_take (i := 20) (v := ?_) rfl (by kernel_rfl) (by kernel_rfl) (by kernel_rfl) (fun _ _ _ h => h) (Or.inl ⟨by rfl, ?_⟩) (by assumption) ?_
            rotate_left
            · (intro w hSw; (try dsimp only at hSw); go_simp); all_goals (with_reducible rfl)
            simp only [List.getElem_toArray, List.getElem_cons_succ, List.getElem_cons_zero, Act.put, List.setIfInBounds_toArray, List.set_cons_zero, List.set_cons_succ]
            refine wpAnyH_ready (rs := [21]) (by kernel_rfl) (by simp) (AllReadyH.cons rfl (fun K hK => ?_) AllReadyH.nil)
            go_simp
            refine hK.out _ _ (HBX.out _ HE6.out.2.2.2) (fun hHeld => ?_)
            clear hK K
            refine wpAnyH_done (by kernel_rfl) ?_ _
            go_wp2_with fail
            go_ret
            exact .inr ⟨HR.out, rfl, HFIN.out _ _ _ HE6.out.1⟩
          ·
            have hcc := ((HI0.out.alloc (.cells #[.int .i64 n] 3)).alloc (.cells #[.string (Em.str op), .int .i64 tn, .slice a tl.length cap] 25)).c1
            go_simp
            refine hK.out _ _ (HBX.out _ ((HI0.out.alloc (.cells #[.int .i64 n] 3)).alloc (.cells #[.string (Em.str op), .int .i64 tn, .slice a tl.length cap] 25)).blk) (fun hHeld => ?_)
            clear hK K hcc
            refine wpAnyH_ready (rs := [8]) (by kernel_rfl) (by simp) (AllReadyH.cons rfl (fun K hK => ?_) AllReadyH.nil)
            refine step_sayV (w := w2) (by rfl) _ _ (by rfl) n _ (by rfl) (by rfl) ((HI0.out.alloc (.cells #[.int .i64 n] 3)).alloc (.cells #[.string (Em.str op), .int .i64 tn, .slice a tl.length cap] 25)) (by simp [go_sem]) hdl1 ?_
            intro v5 X5 hI5 hg5
            obtain ⟨xa, xc, hxe⟩ := hI5.own.form
            have hxf : v5 = .slice xa (D.length + 1) xc := by rw [hxe]; simp
            subst hxf
            have HI5 : Hid (SayI w2 X5 B Z sb (.slice va D.length vc) (.slice ta D.length tc) (.slice xa (D.length + 1) xc) (.slice ta D.length tc) (D.map (·.1) ++ [n]) (D.map (·.2)) N T (.agg #[.string (Em.str op), .int .i64 tn, .slice a tl.length cap])) := hI5
            have HT5 : Hid (X5.cell? ⟨w2.heap.size + 1, 0, none⟩ = some (.string (Em.str op)) ∧ X5.cell? ⟨w2.heap.size + 1, 1, none⟩ = some (.int .i64 tn) ∧ X5.cell? ⟨w2.heap.size + 1, 2, none⟩ = some (.slice a tl.length cap)) := ⟨hg5.cell (by simp [go_sem]) HVN1.out, hg5.cell (by simp [go_sem]) HVN1.out, hg5.cell (by simp [go_sem]) HVN1.out⟩
            refine hK.out _ _ (HBX.out _ hI5.blk) (fun hHeld => ?_)
            clear hK K hxe hI5 hg5
            refine wpAnyH_ready (rs := [15]) (by kernel_rfl) (by simp) (AllReadyH.cons rfl (fun K hK => ?_) AllReadyH.nil)
            refine step_sayT (w := w2) (by rfl) _ _ (by rfl) _ (by rfl) (by rfl) HI5.out HT5.out hdl2 ?_
            intro t6 X6 h6
            obtain ⟨ya, yc, hye, -, -⟩ := ownTys_form h6.2.2.1
            have hyf : t6 = .slice ya (D.length + 1) yc := by rw [hye]; simp
            subst hyf
            have s06 := h6.1.1
            have s16 := h6.1.2.1
            have f6 := h6.1.2.2.2
            have HE6 : Hid _ := say_done HI5.out.nv hsb' HI5.out.vn hi64 h6
            refine hK.out _ _ (HBX.out _ HE6.out.2.1) (fun hHeld => ?_)
            clear hK K hye h6
            refine wpAnyH_take (i := 16) (v := ?_) rfl (by kernel_rfl) (by kernel_rfl) (by kernel_rfl) (fun _ _ _ h => h) (Or.inl ⟨by rfl, ?_⟩) (by assumption) ?_
            rotate_left
            · (intro w hSw; (try dsimp only at hSw); go_simp); all_goals (with_reducible rfl)
            simp only [List.getElem_toArray, List.getElem_cons_succ, List.getElem_cons_zero, Act.put, List.setIfInBounds_toArray, List.set_cons_zero, List.set_cons_succ]
            refine wpAnyH_take (i := 17) (v := ?_) rfl (by kernel_rfl) (by kernel_rfl) (by kernel_rfl) (fun _ _ _ h => h) (Or.inl ⟨by rfl, ?_⟩) (by assumption) ?_
            rotate_left
            · (intro w hSw; (try dsimp only at hSw); go_simp); all_goals (with_reducible rfl)
            simp only [List.getElem_toArray, List.getElem_cons_succ, List.getElem_cons_zero, Act.put, List.setIfInBounds_toArray, List.set_cons_zero, List.set_cons_succ]
            refine wpAnyH_ready (rs := [18]) (by kernel_rfl) (by simp) (AllReadyH.cons rfl (fun K hK => ?_) AllReadyH.nil)
            go_simp
            refine hK.out _ _ (HBX.out _ HE6.out.2.2.1) (fun hHeld => ?_)
            clear hK K
            refine wpAnyH_take (i := 19) (v := ?_) rfl (by kernel_rfl) (by kernel_rfl) (by kernel_rfl) (fun _ _ _ h => h) (Or.inl ⟨by rfl, ?_⟩) (by assumption) ?_
            rotate_left
            · (intro w hSw; (try dsimp only at hSw); go_simp); all_goals (with_reducible rfl)
            simp only [List.getElem_toArray, List.getElem_cons_succ, List.getElem_cons_zero, Act.put, List.setIfInBounds_toArray, List.set_cons_zero, List.set_cons_succ]
            refine wpAnyH_take (i := 20) (v := ?_) rfl (by kernel_rfl) (by kernel_rfl) (by kernel_rfl) (fun _ _ _ h => h) (Or.inl ⟨by rfl, ?_⟩) (by assumption) ?_
            rotate_left
            · (intro w hSw; (try dsimp only at hSw); go_simp); all_goals (with_reducible rfl)
            simp only [List.getElem_toArray, List.getElem_cons_succ, List.getElem_cons_zero, Act.put, List.setIfInBounds_toArray, List.set_cons_zero, List.set_cons_succ]
            refine wpAnyH_ready (rs := [21]) (by kernel_rfl) (by simp) (AllReadyH.cons rfl (fun K hK => ?_) AllReadyH.nil)
            go_simp
            refine hK.out _ _ (HBX.out _ HE6.out.2.2.2) (fun hHeld => ?_)
            clear hK K
            refine wpAnyH_done (by kernel_rfl) ?_ _
            go_wp2_with fail
            go_ret
            exact .inr ⟨HR.out, rfl, HFIN.out _ _ _ HE6.out.1⟩
      ·
        have hcc := HI0.out.c1
        go_simp
        refine hK.out _ _ (HBX.out _ HI0.out.blk) (fun hHeld => ?_)
        clear hK K hcc
        refine wpAnyH_ready (rs := [7, 14]) (by kernel_rfl) (by simp) (AllReadyH.cons rfl (fun K hK => ?_) (AllReadyH.cons rfl (fun K hK => ?_) AllReadyH.nil))
        ·
          go_simp
          refine hK.out _ _ (HBX.out _ (HI0.out.alloc (.cells #[.int .i64 n] 3)).blk) (fun hHeld => ?_)
          clear hK K
          refine wpAnyH_ready (rs := [8, 14]) (by kernel_rfl) (by simp) (AllReadyH.cons rfl (fun K hK => ?_) (AllReadyH.cons rfl (fun K hK => ?_) AllReadyH.nil))
          ·
            refine step_sayV (w := w2) (by rfl) _ _ (by rfl) n _ (by rfl) (by rfl) (HI0.out.alloc (.cells #[.int .i64 n] 3)) (by simp [go_sem]) hdl1 ?_
            intro v5 X5 hI5 hg5
            obtain ⟨xa, xc, hxe⟩ := hI5.own.form
            have hxf : v5 = .slice xa (D.length + 1) xc := by rw [hxe]; simp
            subst hxf
            have HI5 : Hid (SayI w2 X5 B Z sb (.slice va D.length vc) (.slice ta D.length tc) (.slice xa (D.length + 1) xc) (.slice ta D.length tc) (D.map (·.1) ++ [n]) (D.map (·.2)) N T (.agg #[.string (Em.str op), .int .i64 tn, .slice a tl.length cap])) := hI5
            refine hK.out _ _ (HBX.out _ hI5.blk) (fun hHeld => ?_)
            clear hK K hxe hI5 hg5
            refine wpAnyH_ready (rs := [14]) (by kernel_rfl) (by simp) (AllReadyH.cons rfl (fun K hK => ?_) AllReadyH.nil)
            go_simp
            refine hK.out _ _ (HBX.out _ (HI5.out.alloc (.cells #[.string (Em.str op), .int .i64 tn, .slice a tl.length cap] 25)).blk) (fun hHeld => ?_)
            clear hK K
            refine wpAnyH_ready (rs := [15]) (by kernel_rfl) (by simp) (AllReadyH.cons rfl (fun K hK => ?_) AllReadyH.nil)
            refine step_sayT (w := w2) (by rfl) _ _ (by rfl) _ (by rfl) (by rfl) (HI5.out.alloc (.cells #[.string (Em.str op), .int .i64 tn, .slice a tl.length cap] 25)) ⟨by simp [go_sem], by simp [go_sem], by simp [go_sem]⟩ hdl2 ?_
            intro t6 X6 h6
            obtain ⟨ya, yc, hye, -, -⟩ := ownTys_form h6.2.2.1
            have hyf : t6 = .slice ya (D.length + 1) yc := by rw [hye]; simp
            subst hyf
            have s06 := h6.1.1
            have s16 := h6.1.2.1
            have f6 := h6.1.2.2.2
            have HE6 : Hid _ := say_done HI5.out.nv hsb' HI5.out.vn hi64 h6
            refine hK.out _ _ (HBX.out _ HE6.out.2.1) (fun hHeld => ?_)
            clear hK K hye h6
            refine wpAnyH_take (i := 16) (v := ?_) rfl (by kernel_rfl) (by kernel_rfl) (by kernel_rfl) (fun _ _ _ h => h) (Or.inl ⟨by rfl, ?_⟩) (by assumption) ?_
            rotate_left
            · (intro w hSw; (try dsimp only at hSw); go_simp); all_goals (with_reducible rfl)
            simp only [List.getElem_toArray, List.getElem_cons_succ, List.getElem_cons_zero, Act.put, List.setIfInBounds_toArray, List.set_cons_zero, List.set_cons_succ]
            refine wpAnyH_take (i := 17) (v := ?_) rfl (by kernel_rfl) (by kernel_rfl) (by kernel_rfl) (fun _ _ _ h => h) (Or.inl ⟨by rfl, ?_⟩) (by assumption) ?_
            rotate_left
            · (intro w hSw; (try dsimp only at hSw); go_simp); all_goals (with_reducible rfl)
            simp only [List.getElem_toArray, List.getElem_cons_succ, List.getElem_cons_zero, Act.put, List.setIfInBounds_toArray, List.set_cons_zero, List.set_cons_succ]
            refine wpAnyH_ready (rs := [18]) (by kernel_rfl) (by simp) (AllReadyH.cons rfl (fun K hK => ?_) AllReadyH.nil)
            go_simp
            refine hK.out _ _ (HBX.out _ HE6.out.2.2.1) (fun hHeld => ?_)
            clear hK K
            refine wpAnyH_take (i := 19) (v := ?_) rfl (by kernel_rfl) (by kernel_rfl) (by kernel_rfl) (fun _ _ _ h => h) (Or.inl ⟨by rfl, ?_⟩) (by assumption) ?_
            rotate_left
            · (intro w hSw; (try dsimp only at hSw); go_simp); all_goals (with_reducible rfl)
            simp only [List.getElem_toArray, List.getElem_cons_succ, List.getElem_cons_zero, Act.put, List.setIfInBounds_toArray, List.set_cons_zero, List.set_cons_succ]
            refine wpAnyH_take (i := 20) (v := ?_) rfl (by kernel_rfl) (by kernel_rfl) (by kernel_rfl) (fun _ _ _ h => h) (Or.inl ⟨by rfl, ?_⟩) (by assumption) ?_
            rotate_left
            · (intro w hSw; (try dsimp only at hSw); go_simp); all_goals (with_reducible rfl)
            simp only [List.getElem_toArray, List.getElem_cons_succ, List.getElem_cons_zero, Act.put, List.setIfInBounds_toArray, List.set_cons_zero, List.set_cons_succ]
            refine wpAnyH_ready (rs := [21]) (by kernel_rfl) (by simp) (AllReadyH.cons rfl (fun K hK => ?_) AllReadyH.nil)
            go_simp
            refine hK.out _ _ (HBX.out _ HE6.out.2.2.2) (fun hHeld => ?_)
            clear hK K
            refine wpAnyH_done (by kernel_rfl) ?_ _
            go_wp2_with fail
            go_ret
            exact .inr ⟨HR.out, rfl, HFIN.out _ _ _ HE6.out.1⟩
          ·
            go_simp
            refine hK.out _ _ (HBX.out _ ((HI0.out.alloc (.cells #[.int .i64 n] 3)).alloc (.cells #[.string (Em.str op), .int .i64 tn, .slice a tl.length cap] 25)).blk) (fun hHeld => ?_)
            clear hK K
            refine wpAnyH_ready (rs := [8]) (by kernel_rfl) (by simp) (AllReadyH.cons rfl (fun K hK => ?_) AllReadyH.nil)
            refine step_sayV (w := w2) (by rfl) _ _ (by rfl) n _ (by rfl) (by rfl) ((HI0.out.alloc (.cells #[.int .i64 n] 3)).alloc (.cells #[.string (Em.str op), .int .i64 tn, .slice a tl.length cap] 25)) (by simp [go_sem]) hdl1 ?_
            intro v5 X5 hI5 hg5
            obtain ⟨xa, xc, hxe⟩ := hI5.own.form
            have hxf : v5 = .slice xa (D.length + 1) xc := by rw [hxe]; simp
            subst hxf
            have HI5 : Hid (SayI w2 X5 B Z sb (.slice va D.length vc) (.slice ta D.length tc) (.slice xa (D.length + 1) xc) (.slice ta D.length tc) (D.map (·.1) ++ [n]) (D.map (·.2)) N T (.agg #[.string (Em.str op), .int .i64 tn, .slice a tl.length cap])) := hI5
            have HT5 : Hid (X5.cell? ⟨w2.heap.size + 1, 0, none⟩ = some (.string (Em.str op)) ∧ X5.cell? ⟨w2.heap.size + 1, 1, none⟩ = some (.int .i64 tn) ∧ X5.cell? ⟨w2.heap.size + 1, 2, none⟩ = some (.slice a tl.length cap)) := ⟨hg5.cell (by simp [go_sem]) HVN1.out, hg5.cell (by simp [go_sem]) HVN1.out, hg5.cell (by simp [go_sem]) HVN1.out⟩
            refine hK.out _ _ (HBX.out _ hI5.blk) (fun hHeld => ?_)
            clear hK K hxe hI5 hg5
            refine wpAnyH_ready (rs := [15]) (by kernel_rfl) (by simp) (AllReadyH.cons rfl (fun K hK => ?_) AllReadyH.nil)
            refine step_sayT (w := w2) (by rfl) _ _ (by rfl) _ (by rfl) (by rfl) HI5.out HT5.out hdl2 ?_
            intro t6 X6 h6
            obtain ⟨ya, yc, hye, -, -⟩ := ownTys_form h6.2.2.1
            have hyf : t6 = .slice ya (D.length + 1) yc := by rw [hye]; simp
            subst hyf
            have s06 := h6.1.1
            have s16 := h6.1.2.1
            have f6 := h6.1.2.2.2
            have HE6 : Hid _ := say_done HI5.out.nv hsb' HI5.out.vn hi64 h6
            refine hK.out _ _ (HBX.out _ HE6.out.2.1) (fun hHeld => ?_)
            clear hK K hye h6
            refine wpAnyH_take (i := 16) (v := ?_) rfl (by kernel_rfl) (by kernel_rfl) (by kernel_rfl) (fun _ _ _ h => h) (Or.inl ⟨by rfl, ?_⟩) (by assumption) ?_
            rotate_left
            · (intro w hSw; (try dsimp only at hSw); go_simp); all_goals (with_reducible rfl)
            simp only [List.getElem_toArray, List.getElem_cons_succ, List.getElem_cons_zero, Act.put, List.setIfInBounds_toArray, List.set_cons_zero, List.set_cons_succ]
            refine wpAnyH_take (i := 17) (v := ?_) rfl (by kernel_rfl) (by kernel_rfl) (by kernel_rfl) (fun _ _ _ h => h) (Or.inl ⟨by rfl, ?_⟩) (by assumption) ?_
            rotate_left
            · (intro w hSw; (try dsimp only at hSw); go_simp); all_goals (with_reducible rfl)
            simp only [List.getElem_toArray, List.getElem_cons_succ, List.getElem_cons_zero, Act.put, List.setIfInBounds_toArray, List.set_cons_zero, List.set_cons_succ]
            refine wpAnyH_ready (rs := [18]) (by kernel_rfl) (by simp) (AllReadyH.cons rfl (fun K hK => ?_) AllReadyH.nil)
            go_simp
            refine hK.out _ _ (HBX.out _ HE6.out.2.2.1) (fun hHeld => ?_)
            clear hK K
            refine wpAnyH_take (i := 19) (v := ?_) rfl (by kernel_rfl) (by kernel_rfl) (by kernel_rfl) (fun _ _ _ h => h) (Or.inl ⟨by rfl, ?_⟩) (by assumption) ?_
            rotate_left
            · (intro w hSw; (try dsimp only at hSw); go_simp); all_goals (with_reducible rfl)
            simp only [List.getElem_toArray, List.getElem_cons_succ, List.getElem_cons_zero, Act.put, List.setIfInBounds_toArray, List.set_cons_zero, List.set_cons_succ]
            refine wpAnyH_take (i := 20) (v := ?_) rfl (by kernel_rfl) (by kernel_rfl) (by kernel_rfl) (fun _ _ _ h => h) (Or.inl ⟨by rfl, ?_⟩) (by assumption) ?_
            rotate_left
            · (intro w hSw; (try dsimp only at hSw); go_simp); all_goals (with_reducible rfl)
            simp only [List.getElem_toArray, List.getElem_cons_succ, List.getElem_cons_zero, Act.put, List.setIfInBounds_toArray, List.set_cons_zero, List.set_cons_succ]
            refine wpAnyH_ready (rs := [21]) (by kernel_rfl) (by simp) (AllReadyH.cons rfl (fun K hK => ?_) AllReadyH.nil)
            go_simp
            refine hK.out _ _ (HBX.out _ HE6.out.2.2.2) (fun hHeld => ?_)
            clear hK K
            refine wpAnyH_done (by kernel_rfl) ?_ _
            go_wp2_with fail
            go_ret
            exact .inr ⟨HR.out, rfl, HFIN.out _ _ _ HE6.out.1⟩
        ·
          go_simp
          refine hK.out _ _ (HBX.out _ (HI0.out.alloc (.cells #[.string (Em.str op), .int .i64 tn, .slice a tl.length cap] 25)).blk) (fun hHeld => ?_)
          clear hK K
          refine wpAnyH_ready (rs := [7]) (by kernel_rfl) (by simp) (AllReadyH.cons rfl (fun K hK => ?_) AllReadyH.nil)
          go_simp
          refine hK.out _ _ (HBX.out _ ((HI0.out.alloc (.cells #[.string (Em.str op), .int .i64 tn, .slice a tl.length cap] 25)).alloc (.cells #[.int .i64 n] 3)).blk) (fun hHeld => ?_)
          clear hK K
          refine wpAnyH_ready (rs := [8]) (by kernel_rfl) (by simp) (AllReadyH.cons rfl (fun K hK => ?_) AllReadyH.nil)
          refine step_sayV (w := w2) (by rfl) _ _ (by rfl) n _ (by rfl) (by rfl) ((HI0.out.alloc (.cells #[.string (Em.str op), .int .i64 tn, .slice a tl.length cap] 25)).alloc (.cells #[.int .i64 n] 3)) (by simp [go_sem]) hdl1 ?_
          intro v5 X5 hI5 hg5
          obtain ⟨xa, xc, hxe⟩ := hI5.own.form
          have hxf : v5 = .slice xa (D.length + 1) xc := by rw [hxe]; simp
          subst hxf
          have HI5 : Hid (SayI w2 X5 B Z sb (.slice va D.length vc) (.slice ta D.length tc) (.slice xa (D.length + 1) xc) (.slice ta D.length tc) (D.map (·.1) ++ [n]) (D.map (·.2)) N T (.agg #[.string (Em.str op), .int .i64 tn, .slice a tl.length cap])) := hI5
          have HT5 : Hid (X5.cell? ⟨w2.heap.size, 0, none⟩ = some (.string (Em.str op)) ∧ X5.cell? ⟨w2.heap.size, 1, none⟩ = some (.int .i64 tn) ∧ X5.cell? ⟨w2.heap.size, 2, none⟩ = some (.slice a tl.length cap)) := ⟨hg5.cell (by simp [go_sem]) HVN0.out, hg5.cell (by simp [go_sem]) HVN0.out, hg5.cell (by simp [go_sem]) HVN0.out⟩
          refine hK.out _ _ (HBX.out _ hI5.blk) (fun hHeld => ?_)
          clear hK K hxe hI5 hg5
          refine wpAnyH_ready (rs := [15]) (by kernel_rfl) (by simp) (AllReadyH.cons rfl (fun K hK => ?_) AllReadyH.nil)
          refine step_sayT (w := w2) (by rfl) _ _ (by rfl) _ (by rfl) (by rfl) HI5.out HT5.out hdl2 ?_
          intro t6 X6 h6
          obtain ⟨ya, yc, hye, -, -⟩ := ownTys_form h6.2.2.1
          have hyf : t6 = .slice ya (D.length + 1) yc := by rw [hye]; simp
          subst hyf
          have s06 := h6.1.1
          have s16 := h6.1.2.1
          have f6 := h6.1.2.2.2
          have HE6 : Hid _ := say_done HI5.out.nv hsb' HI5.out.vn hi64 h6
          refine hK.out _ _ (HBX.out _ HE6.out.2.1) (fun hHeld => ?_)
          clear hK K hye h6
          refine wpAnyH_take (i := 16) (v := ?_) rfl (by kernel_rfl) (by kernel_rfl) (by kernel_rfl) (fun _ _ _ h => h) (Or.inl ⟨by rfl, ?_⟩) (by assumption) ?_
          rotate_left
          · (intro w hSw; (try dsimp only at hSw); go_simp); all_goals (with_reducible rfl)
          simp only [List.getElem_toArray, List.getElem_cons_succ, List.getElem_cons_zero, Act.put, List.setIfInBounds_toArray, List.set_cons_zero, List.set_cons_succ]
          refine wpAnyH_take (i := 17) (v := ?_) rfl (by kernel_rfl) (by kernel_rfl) (by kernel_rfl) (fun _ _ _ h => h) (Or.inl ⟨by rfl, ?_⟩) (by assumption) ?_
          rotate_left
          · (intro w hSw; (try dsimp only at hSw); go_simp); all_goals (with_reducible rfl)
          simp only [List.getElem_toArray, List.getElem_cons_succ, List.getElem_cons_zero, Act.put, List.setIfInBounds_toArray, List.set_cons_zero, List.set_cons_succ]
          refine wpAnyH_ready (rs := [18]) (by kernel_rfl) (by simp) (AllReadyH.cons rfl (fun K hK => ?_) AllReadyH.nil)
          go_simp
          refine hK.out _ _ (HBX.out _ HE6.out.2.2.1) (fun hHeld => ?_)
          clear hK K
          refine wpAnyH_take (i := 19) (v := ?_) rfl (by kernel_rfl) (by kernel_rfl) (by kernel_rfl) (fun _ _ _ h => h) (Or.inl ⟨by rfl, ?_⟩) (by assumption) ?_
          rotate_left
          · (intro w hSw; (try dsimp only at hSw); go_simp); all_goals (with_reducible rfl)
          simp only [List.getElem_toArray, List.getElem_cons_succ, List.getElem_cons_zero, Act.put, List.setIfInBounds_toArray, List.set_cons_zero, List.set_cons_succ]
          refine wpAnyH_take (i := 20) (v := ?_) rfl (by kernel_rfl) (by kernel_rfl) (by kernel_rfl) (fun _ _ _ h => h) (Or.inl ⟨by rfl, ?_⟩) (by assumption) ?_
          rotate_left
          · (intro w hSw; (try dsimp only at hSw); go_simp); all_goals (with_reducible rfl)
          simp only [List.getElem_toArray, List.getElem_cons_succ, List.getElem_cons_zero, Act.put, List.setIfInBounds_toArray, List.set_cons_zero, List.set_cons_succ]
          refine wpAnyH_ready (rs := [21]) (by kernel_rfl) (by simp) (AllReadyH.cons rfl (fun K hK => ?_) AllReadyH.nil)
          go_simp
          refine hK.out _ _ (HBX.out _ HE6.out.2.2.2) (fun hHeld => ?_)
          clear hK K
          refine wpAnyH_done (by kernel_rfl) ?_ _
          go_wp2_with fail
          go_ret
          exact .inr ⟨HR.out, rfl, HFIN.out _ _ _ HE6.out.1⟩
      ·
        go_simp
        refine hK.out _ _ (HBX.out _ (HI0.out.alloc (.cells #[.string (Em.str op), .int .i64 tn, .slice a tl.length cap] 25)).blk) (fun hHeld => ?_)
        clear hK K
        refine wpAnyH_ready (rs := [7, 12]) (by kernel_rfl) (by simp) (AllReadyH.cons rfl (fun K hK => ?_) (AllReadyH.cons rfl (fun K hK => ?_) AllReadyH.nil))
        ·
          go_simp
          refine hK.out _ _ (HBX.out _ ((HI0.out.alloc (.cells #[.string (Em.str op), .int .i64 tn, .slice a tl.length cap] 25)).alloc (.cells #[.int .i64 n] 3)).blk) (fun hHeld => ?_)
          clear hK K
          refine wpAnyH_ready (rs := [8, 12]) (by kernel_rfl) (by simp) (AllReadyH.cons rfl (fun K hK => ?_) (AllReadyH.cons rfl (fun K hK => ?_) AllReadyH.nil))
          ·
            refine step_sayV (w := w2) (by rfl) _ _ (by rfl) n _ (by rfl) (by rfl) ((HI0.out.alloc (.cells #[.string (Em.str op), .int .i64 tn, .slice a tl.length cap] 25)).alloc (.cells #[.int .i64 n] 3)) (by simp [go_sem]) hdl1 ?_
            intro v5 X5 hI5 hg5
            obtain ⟨xa, xc, hxe⟩ := hI5.own.form
            have hxf : v5 = .slice xa (D.length + 1) xc := by rw [hxe]; simp
            subst hxf
            have HI5 : Hid (SayI w2 X5 B Z sb (.slice va D.length vc) (.slice ta D.length tc) (.slice xa (D.length + 1) xc) (.slice ta D.length tc) (D.map (·.1) ++ [n]) (D.map (·.2)) N T (.agg #[.string (Em.str op), .int .i64 tn, .slice a tl.length cap])) := hI5
            have HT5 : Hid (X5.cell? ⟨w2.heap.size, 0, none⟩ = some (.string (Em.str op)) ∧ X5.cell? ⟨w2.heap.size, 1, none⟩ = some (.int .i64 tn) ∧ X5.cell? ⟨w2.heap.size, 2, none⟩ = some (.slice a tl.length cap)) := ⟨hg5.cell (by simp [go_sem]) HVN0.out, hg5.cell (by simp [go_sem]) HVN0.out, hg5.cell (by simp [go_sem]) HVN0.out⟩
            refine hK.out _ _ (HBX.out _ hI5.blk) (fun hHeld => ?_)
            clear hK K hxe hI5 hg5
            refine wpAnyH_ready (rs := [12]) (by kernel_rfl) (by simp) (AllReadyH.cons rfl (fun K hK => ?_) AllReadyH.nil)
            have hcc := HI5.out.c1
            go_simp
            refine hK.out _ _ (HBX.out _ HI5.out.blk) (fun hHeld => ?_)
            clear hK K hcc
            refine wpAnyH_ready (rs := [15]) (by kernel_rfl) (by simp) (AllReadyH.cons rfl (fun K hK => ?_) AllReadyH.nil)
            refine step_sayT (w := w2) (by rfl) _ _ (by rfl) _ (by rfl) (by rfl) HI5.out HT5.out hdl2 ?_
            intro t6 X6 h6
            obtain ⟨ya, yc, hye, -, -⟩ := ownTys_form h6.2.2.1
            have hyf : t6 = .slice ya (D.length + 1) yc := by rw [hye]; simp
            subst hyf
            have s06 := h6.1.1
            have s16 := h6.1.2.1
            have f6 := h6.1.2.2.2
            have HE6 : Hid _ := say_done HI5.out.nv hsb' HI5.out.vn hi64 h6
            refine hK.out _ _ (HBX.out _ HE6.out.2.1) (fun hHeld => ?_)
            clear hK K hye h6
            refine wpAnyH_take (i := 16) (v := ?_) rfl (by kernel_rfl) (by kernel_rfl) (by kernel_rfl) (fun _ _ _ h => h) (Or.inl ⟨by rfl, ?_⟩) (by assumption) ?_
            rotate_left
            · (intro w hSw; (try dsimp only at hSw); go_simp); all_goals (with_reducible rfl)
            simp only [List.getElem_toArray, List.getElem_cons_succ, List.getElem_cons_zero, Act.put, List.setIfInBounds_toArray, List.set_cons_zero, List.set_cons_succ]
            refine wpAnyH_take (i := 17) (v := ?_) rfl (by kernel_rfl) (by kernel_rfl) (by kernel_rfl) (fun _ _ _ h => h) (Or.inl ⟨by rfl, ?_⟩) (by assumption) ?_
            rotate_left
            · (intro w hSw; (try dsimp only at hSw); go_simp); all_goals (with_reducible rfl)
            simp only [List.getElem_toArray, List.getElem_cons_succ, List.getElem_cons_zero, Act.put, List.setIfInBounds_toArray, List.set_cons_zero, List.set_cons_succ]
            refine wpAnyH_ready (rs := [18]) (by kernel_rfl) (by simp) (AllReadyH.cons rfl (fun K hK => ?_) AllReadyH.nil)
            go_simp
            refine hK.out _ _ (HBX.out _ HE6.out.2.2.1) (fun hHeld => ?_)
            clear hK K
            refine wpAnyH_take (i := 19) (v := ?_) rfl (by kernel_rfl) (by kernel_rfl) (by kernel_rfl) (fun _ _ _ h => h) (Or.inl ⟨by rfl, ?_⟩) (by assumption) ?_
            rotate_left
            · (intro w hSw; (try dsimp only at hSw); go_simp); all_goals (with_reducible rfl)
            simp only [List.getElem_toArray, List.getElem_cons_succ, List.getElem_cons_zero, Act.put, List.setIfInBounds_toArray, List.set_cons_zero, List.set_cons_succ]
            refine wpAnyH_take (i := 20) (v := ?_) rfl (by kernel_rfl) (by kernel_rfl) (by kernel_rfl) (fun _ _ _ h => h) (Or.inl ⟨by rfl, ?_⟩) (by assumption) ?_
            rotate_left
            · (intro w hSw; (try dsimp only at hSw); go_simp); all_goals (with_reducible rfl)
            simp only [List.getElem_toArray, List.getElem_cons_succ, List.getElem_cons_zero, Act.put, List.setIfInBounds_toArray, List.set_cons_zero, List.set_cons_succ]
            refine wpAnyH_ready (rs := [21]) (by kernel_rfl) (by simp) (AllReadyH.cons rfl (fun K hK => ?_) AllReadyH.nil)
            go_simp
            refine hK.out _ _ (HBX.out _ HE6.out.2.2.2) (fun hHeld => ?_)
            clear hK K
            refine wpAnyH_done (by kernel_rfl) ?_ _
            go_wp2_with fail
            go_ret
            exact .inr ⟨HR.out, rfl, HFIN.out _ _ _ HE6.out.1⟩
          ·
            have hcc := ((HI0.out.alloc (.cells #[.string (Em.str op), .int .i64 tn, .slice a tl.length cap] 25)).alloc (.cells #[.int .i64 n] 3)).c1
            go_simp
            refine hK.out _ _ (HBX.out _ ((HI0.out.alloc (.cells #[.string (Em.str op), .int .i64 tn, .slice a tl.length cap] 25)).alloc (.cells #[.int .i64 n] 3)).blk) (fun hHeld => ?_)
            clear hK K hcc
            refine wpAnyH_ready (rs := [8]) (by kernel_rfl) (by simp) (AllReadyH.cons rfl (fun K hK => ?_) AllReadyH.nil)
            refine step_sayV (w := w2) (by rfl) _ _ (by rfl) n _ (by rfl) (by rfl) ((HI0.out.alloc (.cells #[.string (Em.str op), .int .i64 tn, .slice a tl.length cap] 25)).alloc (.cells #[.int .i64 n] 3)) (by simp [go_sem]) hdl1 ?_
            intro v5 X5 hI5 hg5
            obtain ⟨xa, xc, hxe⟩ := hI5.own.form
            have hxf : v5 = .slice xa (D.length + 1) xc := by rw [hxe]; simp
            subst hxf
            have HI5 : Hid (SayI w2 X5 B Z sb (.slice va D.length vc) (.slice ta D.length tc) (.slice xa (D.length + 1) xc) (.slice ta D.length tc) (D.map (·.1) ++ [n]) (D.map (·.2)) N T (.agg #[.string (Em.str op), .int .i64 tn, .slice a tl.length cap])) := hI5
            have HT5 : Hid (X5.cell? ⟨w2.heap.size, 0, none⟩ = some (.string (Em.str op)) ∧ X5.cell? ⟨w2.heap.size, 1, none⟩ = some (.int .i64 tn) ∧ X5.cell? ⟨w2.heap.size, 2, none⟩ = some (.slice a tl.length cap)) := ⟨hg5.cell (by simp [go_sem]) HVN0.out, hg5.cell (by simp [go_sem]) HVN0.out, hg5.cell (by simp [go_sem]) HVN0.out⟩
            refine hK.out _ _ (HBX.out _ hI5.blk) (fun hHeld => ?_)
            clear hK K hxe hI5 hg5
            refine wpAnyH_ready (rs := [15]) (by kernel_rfl) (by simp) (AllReadyH.cons rfl (fun K hK => ?_) AllReadyH.nil)
            refine step_sayT (w := w2) (by rfl) _ _ (by rfl) _ (by rfl) (by rfl) HI5.out HT5.out hdl2 ?_
            intro t6 X6 h6
            obtain ⟨ya, yc, hye, -, -⟩ := ownTys_form h6.2.2.1
            have hyf : t6 = .slice ya (D.length + 1) yc := by rw [hye]; simp
            subst hyf
            have s06 := h6.1.1
            have s16 := h6.1.2.1
            have f6 := h6.1.2.2.2
            have HE6 : Hid _ := say_done HI5.out.nv hsb' HI5.out.vn hi64 h6
            refine hK.out _ _ (HBX.out _ HE6.out.2.1) (fun hHeld => ?_)
            clear hK K hye h6
            refine wpAnyH_take (i := 16) (v := ?_) rfl (by kernel_rfl) (by kernel_rfl) (by kernel_rfl) (fun _ _ _ h => h) (Or.inl ⟨by rfl, ?_⟩) (by assumption) ?_
            rotate_left
            · (intro w hSw; (try dsimp only at hSw); go_simp); all_goals (with_reducible rfl)
            simp only [List.getElem_toArray, List.getElem_cons_succ, List.getElem_cons_zero, Act.put, List.setIfInBounds_toArray, List.set_cons_zero, List.set_cons_succ]
            refine wpAnyH_take (i := 17) (v := ?_) rfl (by kernel_rfl) (by kernel_rfl) (by kernel_rfl) (fun _ _ _ h => h) (Or.inl ⟨by rfl, ?_⟩) (by assumption) ?_
            rotate_left
            · (intro w hSw; (try dsimp only at hSw); go_simp); all_goals (with_reducible rfl)
            simp only [List.getElem_toArray, List.getElem_cons_succ, List.getElem_cons_zero, Act.put, List.setIfInBounds_toArray, List.set_cons_zero, List.set_cons_succ]
            refine wpAnyH_ready (rs := [18]) (by kernel_rfl) (by simp) (AllReadyH.cons rfl (fun K hK => ?_) AllReadyH.nil)
            go_simp
            refine hK.out _ _ (HBX.out _ HE6.out.2.2.1) (fun hHeld => ?_)
            clear hK K
            refine wpAnyH_take (i := 19) (v := ?_) rfl (by kernel_rfl) (by kernel_rfl) (by kernel_rfl) (fun _ _ _ h => h) (Or.inl ⟨by rfl, ?_⟩) (by assumption) ?_
            rotate_left
            · (intro w hSw; (try dsimp only at hSw); go_simp); all_goals (with_reducible rfl)
            simp only [List.getElem_toArray, List.getElem_cons_succ, List.getElem_cons_zero, Act.put, List.setIfInBounds_toArray, List.set_cons_zero, List.set_cons_succ]
            refine wpAnyH_take (i := 20) (v := ?_) rfl (by kernel_rfl) (by kernel_rfl) (by kernel_rfl) (fun _ _ _ h => h) (Or.inl ⟨by rfl, ?_⟩) (by assumption) ?_
            rotate_left
            · (intro w hSw; (try dsimp only at hSw); go_simp); all_goals (with_reducible rfl)
            simp only [List.getElem_toArray, List.getElem_cons_succ, List.getElem_cons_zero, Act.put, List.setIfInBounds_toArray, List.set_cons_zero, List.set_cons_succ]
            refine wpAnyH_ready (rs := [21]) (by kernel_rfl) (by simp) (AllReadyH.cons rfl (fun K hK => ?_) AllReadyH.nil)
            go_simp
            refine hK.out _ _ (HBX.out _ HE6.out.2.2.2) (fun hHeld => ?_)
            clear hK K
            refine wpAnyH_done (by kernel_rfl) ?_ _
            go_wp2_with fail
            go_ret
            exact .inr ⟨HR.out, rfl, HFIN.out _ _ _ HE6.out.1⟩
        ·
          have hcc := (HI0.out.alloc (.cells #[.string (Em.str op), .int .i64 tn, .slice a tl.length cap] 25)).c1
          go_simp
          refine hK.out _ _ (HBX.out _ (HI0.out.alloc (.cells #[.string (Em.str op), .int .i64 tn, .slice a tl.length cap] 25)).blk) (fun hHeld => ?_)
          clear hK K hcc
          refine wpAnyH_ready (rs := [7]) (by kernel_rfl) (by simp) (AllReadyH.cons rfl (fun K hK => ?_) AllReadyH.nil)
          go_simp
          refine hK.out _ _ (HBX.out _ ((HI0.out.alloc (.cells #[.string (Em.str op), .int .i64 tn, .slice a tl.length cap] 25)).alloc (.cells #[.int .i64 n] 3)).blk) (fun hHeld => ?_)
          clear hK K
          refine wpAnyH_ready (rs := [8]) (by kernel_rfl) (by simp) (AllReadyH.cons rfl (fun K hK => ?_) AllReadyH.nil)
          refine step_sayV (w := w2) (by rfl) _ _ (by rfl) n _ (by rfl) (by rfl) ((HI0.out.alloc (.cells #[.string (Em.str op), .int .i64 tn, .slice a tl.length cap] 25)).alloc (.cells #[.int .i64 n] 3)) (by simp [go_sem]) hdl1 ?_
          intro v5 X5 hI5 hg5
          obtain ⟨xa, xc, hxe⟩ := hI5.own.form
          have hxf : v5 = .slice xa (D.length + 1) xc := by rw [hxe]; simp
          subst hxf
          have HI5 : Hid (SayI w2 X5 B Z sb (.slice va D.length vc) (.slice ta D.length tc) (.slice xa (D.length + 1) xc) (.slice ta D.length tc) (D.map (·.1) ++ [n]) (D.map (·.2)) N T (.agg #[.string (Em.str op), .int .i64 tn, .slice a tl.length cap])) := hI5
          have HT5 : Hid (X5.cell? ⟨w2.heap.size, 0, none⟩ = some (.string (Em.str op)) ∧ X5.cell? ⟨w2.heap.size, 1, none⟩ = some (.int .i64 tn) ∧ X5.cell? ⟨w2.heap.size, 2, none⟩ = some (.slice a tl.length cap)) := ⟨hg5.cell (by simp [go_sem]) HVN0.out, hg5.cell (by simp [go_sem]) HVN0.out, hg5.cell (by simp [go_sem]) HVN0.out⟩
          refine hK.out _ _ (HBX.out _ hI5.blk) (fun hHeld => ?_)
          clear hK K hxe hI5 hg5
          refine wpAnyH_ready (rs := [15]) (by kernel_rfl) (by simp) (AllReadyH.cons rfl (fun K hK => ?_) AllReadyH.nil)
          refine step_sayT (w := w2) (by rfl) _ _ (by rfl) _ (by rfl) (by rfl) HI5.out HT5.out hdl2 ?_
          intro t6 X6 h6
          obtain ⟨ya, yc, hye, -, -⟩ := ownTys_form h6.2.2.1
          have hyf : t6 = .slice ya (D.length + 1) yc := by rw [hye]; simp
          subst hyf
          have s06 := h6.1.1
          have s16 := h6.1.2.1
          have f6 := h6.1.2.2.2
          have HE6 : Hid _ := say_done HI5.out.nv hsb' HI5.out.vn hi64 h6
          refine hK.out _ _ (HBX.out _ HE6.out.2.1) (fun hHeld => ?_)
          clear hK K hye h6
          refine wpAnyH_take (i := 16) (v := ?_) rfl (by kernel_rfl) (by kernel_rfl) (by kernel_rfl) (fun _ _ _ h => h) (Or.inl ⟨by rfl, ?_⟩) (by assumption) ?_
          rotate_left
          · (intro w hSw; (try dsimp only at hSw); go_simp); all_goals (with_reducible rfl)
          simp only [List.getElem_toArray, List.getElem_cons_succ, List.getElem_cons_zero, Act.put, List.setIfInBounds_toArray, List.set_cons_zero, List.set_cons_succ]
          refine wpAnyH_take (i := 17) (v := ?_) rfl (by kernel_rfl) (by kernel_rfl) (by kernel_rfl) (fun _ _ _ h => h) (Or.inl ⟨by rfl, ?_⟩) (by assumption) ?_
          rotate_left
          · (intro w hSw; (try dsimp only at hSw); go_simp); all_goals (with_reducible rfl)
          simp only [List.getElem_toArray, List.getElem_cons_succ, List.getElem_cons_zero, Act.put, List.setIfInBounds_toArray, List.set_cons_zero, List.set_cons_succ]
          refine wpAnyH_ready (rs := [18]) (by kernel_rfl) (by simp) (AllReadyH.cons rfl (fun K hK => ?_) AllReadyH.nil)
          go_simp
          refine hK.out _ _ (HBX.out _ HE6.out.2.2.1) (fun hHeld => ?_)
          clear hK K
          refine wpAnyH_take (i := 19) (v := ?_) rfl (by kernel_rfl) (by kernel_rfl) (by kernel_rfl) (fun _ _ _ h => h) (Or.inl ⟨by rfl, ?_⟩) (by assumption) ?_
          rotate_left
          · (intro w hSw; (try dsimp only at hSw); go_simp); all_goals (with_reducible rfl)
          simp only [List.getElem_toArray, List.getElem_cons_succ, List.getElem_cons_zero, Act.put, List.setIfInBounds_toArray, List.set_cons_zero, List.set_cons_succ]
          refine wpAnyH_take (i := 20) (v := ?_) rfl (by kernel_rfl) (by kernel_rfl) (by kernel_rfl) (fun _ _ _ h => h) (Or.inl ⟨by rfl, ?_⟩) (by assumption) ?_
          rotate_left
          · (intro w hSw; (try dsimp only at hSw); go_simp); all_goals (with_reducible rfl)
          simp only [List.getElem_toArray, List.getElem_cons_succ, List.getElem_cons_zero, Act.put, List.setIfInBounds_toArray, List.set_cons_zero, List.set_cons_succ]
          refine wpAnyH_ready (rs := [21]) (by kernel_rfl) (by simp) (AllReadyH.cons rfl (fun K hK => ?_) AllReadyH.nil)
          go_simp
          refine hK.out _ _ (HBX.out _ HE6.out.2.2.2) (fun hHeld => ?_)
          clear hK K
          refine wpAnyH_done (by kernel_rfl) ?_ _
          go_wp2_with fail
          go_ret
          exact .inr ⟨HR.out, rfl, HFIN.out _ _ _ HE6.out.1⟩
    ·
      go_simp
      refine hK.out _ _ (HBX.out _ (HI0.out.alloc (.cells #[.int .i64 n] 3)).blk) (fun hHeld => ?_)
      clear hK K
      refine wpAnyH_ready (rs := [5, 12, 14]) (by kernel_rfl) (by simp) (AllReadyH.cons rfl (fun K hK => ?_) (AllReadyH.cons rfl (fun K hK => ?_) (AllReadyH.cons rfl (fun K hK => ?_) AllReadyH.nil)))
      ·
        have hcc := (HI0.out.alloc (.cells #[.int .i64 n] 3)).c0
        go_simp
        refine hK.out _ _ (HBX.out _ (HI0.out.alloc (.cells #[.int .i64 n] 3)).blk) (fun hHeld => ?_)
        clear hK K hcc
        refine wpAnyH_ready (rs := [8, 12, 14]) (by kernel_rfl) (by simp) (AllReadyH.cons rfl (fun K hK => ?_) (AllReadyH.cons rfl (fun K hK => ?_) (AllReadyH.cons rfl (fun K hK => ?_) AllReadyH.nil)))
        ·
          refine step_sayV (w := w2) (by rfl) _ _ (by rfl) n _ (by rfl) (by rfl) (HI0.out.alloc (.cells #[.int .i64 n] 3)) (by simp [go_sem]) hdl1 ?_
          intro v5 X5 hI5 hg5
          obtain ⟨xa, xc, hxe⟩ := hI5.own.form
          have hxf : v5 = .slice xa (D.length + 1) xc := by rw [hxe]; simp
          subst hxf
          have HI5 : Hid (SayI w2 X5 B Z sb (.slice va D.length vc) (.slice ta D.length tc) (.slice xa (D.length + 1) xc) (.slice ta D.length tc) (D.map (·.1) ++ [n]) (D.map (·.2)) N T (.agg #[.string (Em.str op), .int .i64 tn, .slice a tl.length cap])) := hI5
          refine hK.out _ _ (HBX.out _ hI5.blk) (fun hHeld => ?_)
          clear hK K hxe hI5 hg5
          refine wpAnyH_ready (rs := [12, 14]) (by kernel_rfl) (by simp) (AllReadyH.cons rfl (fun K hK => ?_) (AllReadyH.cons rfl (fun K hK => ?_) AllReadyH.nil))
          ·
            have hcc := HI5.out.c1
            go_simp
            refine hK.out _ _ (HBX.out _ HI5.out.blk) (fun hHeld => ?_)
            clear hK K hcc
            refine wpAnyH_ready (rs := [14]) (by kernel_rfl) (by simp) (AllReadyH.cons rfl (fun K hK => ?_) AllReadyH.nil)
            go_simp
            refine hK.out _ _ (HBX.out _ (HI5.out.alloc (.cells #[.string (Em.str op), .int .i64 tn, .slice a tl.length cap] 25)).blk) (fun hHeld => ?_)
            clear hK K
            refine wpAnyH_ready (rs := [15]) (by kernel_rfl) (by simp) (AllReadyH.cons rfl (fun K hK => ?_) AllReadyH.nil)
            refine step_sayT (w := w2) (by rfl) _ _ (by rfl) _ (by rfl) (by rfl) (HI5.out.alloc (.cells #[.string (Em.str op), .int .i64 tn, .slice a tl.length cap] 25)) ⟨by simp [go_sem], by simp [go_sem], by simp [go_sem]⟩ hdl2 ?_
            intro t6 X6 h6
            obtain ⟨ya, yc, hye, -, -⟩ := ownTys_form h6.2.2.1
            have hyf : t6 = .slice ya (D.length + 1) yc := by rw [hye]; simp
            subst hyf
            have s06 := h6.1.1
            have s16 := h6.1.2.1
            have f6 := h6.1.2.2.2
            have HE6 : Hid _ := say_done HI5.out.nv hsb' HI5.out.vn hi64 h6
            refine hK.out _ _ (HBX.out _ HE6.out.2.1) (fun hHeld => ?_)
            clear hK K hye h6
            refine wpAnyH_take (i := 16) (v := ?_) rfl (by kernel_rfl) (by kernel_rfl) (by kernel_rfl) (fun _ _ _ h => h) (Or.inl ⟨by rfl, ?_⟩) (by assumption) ?_
            rotate_left
            · (intro w hSw; (try dsimp only at hSw); go_simp); all_goals (with_reducible rfl)
            simp only [List.getElem_toArray, List.getElem_cons_succ, List.getElem_cons_zero, Act.put, List.setIfInBounds_toArray, List.set_cons_zero, List.set_cons_succ]
            refine wpAnyH_take (i := 17) (v := ?_) rfl (by kernel_rfl) (by kernel_rfl) (by kernel_rfl) (fun _ _ _ h => h) (Or.inl ⟨by rfl, ?_⟩) (by assumption) ?_
            rotate_left
            · (intro w hSw; (try dsimp only at hSw); go_simp); all_goals (with_reducible rfl)
            simp only [List.getElem_toArray, List.getElem_cons_succ, List.getElem_cons_zero, Act.put, List.setIfInBounds_toArray, List.set_cons_zero, List.set_cons_succ]
            refine wpAnyH_ready (rs := [18]) (by kernel_rfl) (by simp) (AllReadyH.cons rfl (fun K hK => ?_) AllReadyH.nil)
            go_simp
            refine hK.out _ _ (HBX.out _ HE6.out.2.2.1) (fun hHeld => ?_)
            clear hK K
            refine wpAnyH_take (i := 19) (v := ?_) rfl (by kernel_rfl) (by kernel_rfl) (by kernel_rfl) (fun _ _ _ h => h) (Or.inl ⟨by rfl, ?_⟩) (by assumption) ?_
            rotate_left
            · (intro w hSw; (try dsimp only at hSw); go_simp); all_goals (with_reducible rfl)
            simp only [List.getElem_toArray, List.getElem_cons_succ, List.getElem_cons_zero, Act.put, List.setIfInBounds_toArray, List.set_cons_zero, List.set_cons_succ]
            refine wpAnyH_take (i := 20) (v := ?_) rfl (by kernel_rfl) (by kernel_rfl) (by kernel_rfl) (fun _ _ _ h => h) (Or.inl ⟨by rfl, ?_⟩) (by assumption) ?_
            rotate_left
            · (intro w hSw; (try dsimp only at hSw); go_simp); all_goals (with_reducible rfl)
            simp only [List.getElem_toArray, List.getElem_cons_succ, List.getElem_cons_zero, Act.put, List.setIfInBounds_toArray, List.set_cons_zero, List.set_cons_succ]
            refine wpAnyH_ready (rs := [21]) (by kernel_rfl) (by simp) (AllReadyH.cons rfl (fun K hK => ?_) AllReadyH.nil)
            go_simp
            refine hK.out _ _ (HBX.out _ HE6.out.2.2.2) (fun hHeld => ?_)
            clear hK K
            refine wpAnyH_done (by kernel_rfl) ?_ _
            go_wp2_with fail
            go_ret
            exact .inr ⟨HR.out, rfl, HFIN.out _ _ _ HE6.out.1⟩
          ·
            go_simp
            refine hK.out _ _ (HBX.out _ (HI5.out.alloc (.cells #[.string (Em.str op), .int .i64 tn, .slice a tl.length cap] 25)).blk) (fun hHeld => ?_)
            clear hK K
            refine wpAnyH_ready (rs := [12]) (by kernel_rfl) (by simp) (AllReadyH.cons rfl (fun K hK => ?_) AllReadyH.nil)
            have hcc := (HI5.out.alloc (.cells #[.string (Em.str op), .int .i64 tn, .slice a tl.length cap] 25)).c1
            go_simp
            refine hK.out _ _ (HBX.out _ (HI5.out.alloc (.cells #[.string (Em.str op), .int .i64 tn, .slice a tl.length cap] 25)).blk) (fun hHeld => ?_)
            clear hK K hcc
            refine wpAnyH_ready (rs := [15]) (by kernel_rfl) (by simp) (AllReadyH.cons rfl (fun K hK => ?_) AllReadyH.nil)
            refine step_sayT (w := w2) (by rfl) _ _ (by rfl) _ (by rfl) (by rfl) (HI5.out.alloc (.cells #[.string (Em.str op), .int .i64 tn, .slice a tl.length cap] 25)) ⟨by simp [go_sem], by simp [go_sem], by simp [go_sem]⟩ hdl2 ?_
            intro t6 X6 h6
            obtain ⟨ya, yc, hye, -, -⟩ := ownTys_form h6.2.2.1
            have hyf : t6 = .slice ya (D.length + 1) yc := by rw [hye]; simp
            subst hyf
            have s06 := h6.1.1
            have s16 := h6.1.2.1
            have f6 := h6.1.2.2.2
            have HE6 : Hid _ := say_done HI5.out.nv hsb' HI5.out.vn hi64 h6
            refine hK.out _ _ (HBX.out _ HE6.out.2.1) (fun hHeld => ?_)
            clear hK K hye h6
            refine wpAnyH_take (i := 16) (v := ?_) rfl (by kernel_rfl) (by kernel_rfl) (by kernel_rfl) (fun _ _ _ h => h) (Or.inl ⟨by rfl, ?_⟩) (by assumption) ?_
            rotate_left
            · (intro w hSw; (try dsimp only at hSw); go_simp); all_goals (with_reducible rfl)
            simp only [List.getElem_toArray, List.getElem_cons_succ, List.getElem_cons_zero, Act.put, List.setIfInBounds_toArray, List.set_cons_zero, List.set_cons_succ]
            refine wpAnyH_take (i := 17) (v := ?_) rfl (by kernel_rfl) (by kernel_rfl) (by kernel_rfl) (fun _ _ _ h => h) (Or.inl ⟨by rfl, ?_⟩) (by assumption) ?_
            rotate_left
            · (intro w hSw; (try dsimp only at hSw); go_simp); all_goals (with_reducible rfl)
            simp only [List.getElem_toArray, List.getElem_cons_succ, List.getElem_cons_zero, Act.put, List.setIfInBounds_toArray, List.set_cons_zero, List.set_cons_succ]
            refine wpAnyH_ready (rs := [18]) (by kernel_rfl) (by simp) (AllReadyH.cons rfl (fun K hK => ?_) AllReadyH.nil)
            go_simp
            refine hK.out _ _ (HBX.out _ HE6.out.2.2.1) (fun hHeld => ?_)
            clear hK K
            refine wpAnyH_take (i := 19) (v := ?_) rfl (by kernel_rfl) (by kernel_rfl) (by kernel_rfl) (fun _ _ _ h => h) (Or.inl ⟨by rfl, ?_⟩) (by assumption) ?_
            rotate_left
            · (intro w hSw; (try dsimp only at hSw); go_simp); all_goals (with_reducible rfl)
            simp only [List.getElem_toArray, List.getElem_cons_succ, List.getElem_cons_zero, Act.put, List.setIfInBounds_toArray, List.set_cons_zero, List.set_cons_succ]
            refine wpAnyH_take (i := 20) (v := ?_) rfl (by kernel_rfl) (by kernel_rfl) (by kernel_rfl) (fun _ _ _ h => h) (Or.inl ⟨by rfl, ?_⟩) (by assumption) ?_
            rotate_left
            · (intro w hSw; (try dsimp only at hSw); go_simp); all_goals (with_reducible rfl)
            simp only [List.getElem_toArray, List.getElem_cons_succ, List.getElem_cons_zero, Act.put, List.setIfInBounds_toArray, List.set_cons_zero, List.set_cons_succ]
            refine wpAnyH_ready (rs := [21]) (by kernel_rfl) (by simp) (AllReadyH.cons rfl (fun K hK => ?_) AllReadyH.nil)
            go_simp
            refine hK.out _ _ (HBX.out _ HE6.out.2.2.2) (fun hHeld => ?_)
            clear hK K
            refine wpAnyH_done (by kernel_rfl) ?_ _
            go_wp2_with fail
            go_ret
            exact .inr ⟨HR.out, rfl, HFIN.out _ _ _ HE6.out.1⟩
        ·
          have hcc := (HI0.out.alloc (.cells #[.int .i64 n] 3)).c1
          go_simp
          refine hK.out _ _ (HBX.out _ (HI0.out.alloc (.cells #[.int .i64 n] 3)).blk) (fun hHeld => ?_)
          clear hK K hcc
          refine wpAnyH_ready (rs := [8, 14]) (by kernel_rfl) (by simp) (AllReadyH.cons rfl (fun K hK => ?_) (AllReadyH.cons rfl (fun K hK => ?_) AllReadyH.nil))
          ·
            refine step_sayV (w := w2) (by rfl) _ _ (by rfl) n _ (by rfl) (by rfl) (HI0.out.alloc (.cells #[.int .i64 n] 3)) (by simp [go_sem]) hdl1 ?_
            intro v5 X5 hI5 hg5
            obtain ⟨xa, xc, hxe⟩ := hI5.own.form
            have hxf : v5 = .slice xa (D.length + 1) xc := by rw [hxe]; simp
            subst hxf
            have HI5 : Hid (SayI w2 X5 B Z sb (.slice va D.length vc) (.slice ta D.length tc) (.slice xa (D.length + 1) xc) (.slice ta D.length tc) (D.map (·.1) ++ [n]) (D.map (·.2)) N T (.agg #[.string (Em.str op), .int .i64 tn, .slice a tl.length cap])) := hI5
            refine hK.out _ _ (HBX.out _ hI5.blk) (fun hHeld => ?_)
            clear hK K hxe hI5 hg5
            refine wpAnyH_ready (rs := [14]) (by kernel_rfl) (by simp) (AllReadyH.cons rfl (fun K hK => ?_) AllReadyH.nil)
            go_simp
            refine hK.out _ _ (HBX.out _ (HI5.out.alloc (.cells #[.string (Em.str op), .int .i64 tn, .slice a tl.length cap] 25)).blk) (fun hHeld => ?_)
            clear hK K
            refine wpAnyH_ready (rs := [15]) (by kernel_rfl) (by simp) (AllReadyH.cons rfl (fun K hK => ?_) AllReadyH.nil)
            refine step_sayT (w := w2) (by rfl) _ _ (by rfl) _ (by rfl) (by rfl) (HI5.out.alloc (.cells #[.string (Em.str op), .int .i64 tn, .slice a tl.length cap] 25)) ⟨by simp [go_sem], by simp [go_sem], by simp [go_sem]⟩ hdl2 ?_
            intro t6 X6 h6
            obtain ⟨ya, yc, hye, -, -⟩ := ownTys_form h6.2.2.1
            have hyf : t6 = .slice ya (D.length + 1) yc := by rw [hye]; simp
            subst hyf
            have s06 := h6.1.1
            have s16 := h6.1.2.1
            have f6 := h6.1.2.2.2
            have HE6 : Hid _ := say_done HI5.out.nv hsb' HI5.out.vn hi64 h6
            refine hK.out _ _ (HBX.out _ HE6.out.2.1) (fun hHeld => ?_)
            clear hK K hye h6
            refine wpAnyH_take (i := 16) (v := ?_) rfl (by kernel_rfl) (by kernel_rfl) (by kernel_rfl) (fun _ _ _ h => h) (Or.inl ⟨by rfl, ?_⟩) (by assumption) ?_
            rotate_left
            · (intro w hSw; (try dsimp only at hSw); go_simp); all_goals (with_reducible rfl)
            simp only [List.getElem_toArray, List.getElem_cons_succ, List.getElem_cons_zero, Act.put, List.setIfInBounds_toArray, List.set_cons_zero, List.set_cons_succ]
            refine wpAnyH_take (i := 17) (v := ?_) rfl (by kernel_rfl) (by kernel_rfl) (by kernel_rfl) (fun _ _ _ h => h) (Or.inl ⟨by rfl, ?_⟩) (by assumption) ?_
            rotate_left
            · (intro w hSw; (try dsimp only at hSw); go_simp); all_goals (with_reducible rfl)
            simp only [List.getElem_toArray, List.getElem_cons_succ, List.getElem_cons_zero, Act.put, List.setIfInBounds_toArray, List.set_cons_zero, List.set_cons_succ]
            refine wpAnyH_ready (rs := [18]) (by kernel_rfl) (by simp) (AllReadyH.cons rfl (fun K hK => ?_) AllReadyH.nil)
            go_simp
            refine hK.out _ _ (HBX.out _ HE6.out.2.2.1) (fun hHeld => ?_)
            clear hK K
            refine wpAnyH_take (i := 19) (v := ?_) rfl (by kernel_rfl) (by kernel_rfl) (by kernel_rfl) (fun _ _ _ h => h) (Or.inl ⟨by rfl, ?_⟩) (by assumption) ?_
            rotate_left
            · (intro w hSw; (try dsimp only at hSw); go_simp); all_goals (with_reducible rfl)
            simp only [List.getElem_toArray, List.getElem_cons_succ, List.getElem_cons_zero, Act.put, List.setIfInBounds_toArray, List.set_cons_zero, List.set_cons_succ]
            refine wpAnyH_take (i := 20) (v := ?_) rfl (by kernel_rfl) (by kernel_rfl) (by kernel_rfl) (fun _ _ _ h => h) (Or.inl ⟨by rfl, ?_⟩) (by assumption) ?_
            rotate_left
            · (intro w hSw; (try dsimp only at hSw); go_simp); all_goals (with_reducible rfl)
            simp only [List.getElem_toArray, List.getElem_cons_succ, List.getElem_cons_zero, Act.put, List.setIfInBounds_toArray, List.set_cons_zero, List.set_cons_succ]
            refine wpAnyH_ready (rs := [21]) (by kernel_rfl) (by simp) (AllReadyH.cons rfl (fun K hK => ?_) AllReadyH.nil)
            go_simp
            refine hK.out _ _ (HBX.out _ HE6.out.2.2.2) (fun hHeld => ?_)
            clear hK K
            refine wpAnyH_done (by kernel_rfl) ?_ _
            go_wp2_with fail
            go_ret
            exact .inr ⟨HR.out, rfl, HFIN.out _ _ _ HE6.out.1⟩
          ·
            go_simp
            refine hK.out _ _ (HBX.out _ ((HI0.out.alloc (.cells #[.int .i64 n] 3)).alloc (.cells #[.string (Em.str op), .int .i64 tn, .slice a tl.length cap] 25)).blk) (fun hHeld => ?_)
            clear hK K
            refine wpAnyH_ready (rs := [8]) (by kernel_rfl) (by simp) (AllReadyH.cons rfl (fun K hK => ?_) AllReadyH.nil)
            refine step_sayV (w := w2) (by rfl) _ _ (by rfl) n _ (by rfl) (by rfl) ((HI0.out.alloc (.cells #[.int .i64 n] 3)).alloc (.cells #[.string (Em.str op), .int .i64 tn, .slice a tl.length cap] 25)) (by simp [go_sem]) hdl1 ?_
            intro v5 X5 hI5 hg5
            obtain ⟨xa, xc, hxe⟩ := hI5.own.form
            have hxf : v5 = .slice xa (D.length + 1) xc := by rw [hxe]; simp
            subst hxf
            have HI5 : Hid (SayI w2 X5 B Z sb (.slice va D.length vc) (.slice ta D.length tc) (.slice xa (D.length + 1) xc) (.slice ta D.length tc) (D.map (·.1) ++ [n]) (D.map (·.2)) N T (.agg #[.string (Em.str op), .int .i64 tn, .slice a tl.length cap])) := hI5
            have HT5 : Hid (X5.cell? ⟨w2.heap.size + 1, 0, none⟩ = some (.string (Em.str op)) ∧ X5.cell? ⟨w2.heap.size + 1, 1, none⟩ = some (.int .i64 tn) ∧ X5.cell? ⟨w2.heap.size + 1, 2, none⟩ = some (.slice a tl.length cap)) := ⟨hg5.cell (by simp [go_sem]) HVN1.out, hg5.cell (by simp [go_sem]) HVN1.out, hg5.cell (by simp [go_sem]) HVN1.out⟩
            refine hK.out _ _ (HBX.out _ hI5.blk) (fun hHeld => ?_)
            clear hK K hxe hI5 hg5
            refine wpAnyH_ready (rs := [15]) (by kernel_rfl) (by simp) (AllReadyH.cons rfl (fun K hK => ?_) AllReadyH.nil)
            refine step_sayT (w := w2) (by rfl) _ _ (by rfl) _ (by rfl) (by rfl) HI5.out HT5.out hdl2 ?_
            intro t6 X6 h6
            obtain ⟨ya, yc, hye, -, -⟩ := ownTys_form h6.2.2.1
            have hyf : t6 = .slice ya (D.length + 1) yc := by rw [hye]; simp
            subst hyf
            have s06 := h6.1.1
            have s16 := h6.1.2.1
            have f6 := h6.1.2.2.2
            have HE6 : Hid _ := say_done HI5.out.nv hsb' HI5.out.vn hi64 h6
            refine hK.out _ _ (HBX.out _ HE6.out.2.1) (fun hHeld => ?_)
            clear hK K hye h6
            refine wpAnyH_take (i := 16) (v := ?_) rfl (by kernel_rfl) (by kernel_rfl) (by kernel_rfl) (fun _ _ _ h => h) (Or.inl ⟨by rfl, ?_⟩) (by assumption) ?_
            rotate_left
            · (intro w hSw; (try dsimp only at hSw); go_simp); all_goals (with_reducible rfl)
            simp only [List.getElem_toArray, List.getElem_cons_succ, List.getElem_cons_zero, Act.put, List.setIfInBounds_toArray, List.set_cons_zero, List.set_cons_succ]
            refine wpAnyH_take (i := 17) (v := ?_) rfl (by kernel_rfl) (by kernel_rfl) (by kernel_rfl) (fun _ _ _ h => h) (Or.inl ⟨by rfl, ?_⟩) (by assumption) ?_
            rotate_left
            · (intro w hSw; (try dsimp only at hSw); go_simp); all_goals (with_reducible rfl)
            simp only [List.getElem_toArray, List.getElem_cons_succ, List.getElem_cons_zero, Act.put, List.setIfInBounds_toArray, List.set_cons_zero, List.set_cons_succ]
            refine wpAnyH_ready (rs := [18]) (by kernel_rfl) (by simp) (AllReadyH.cons rfl (fun K hK => ?_) AllReadyH.nil)
            go_simp
            refine hK.out _ _ (HBX.out _ HE6.out.2.2.1) (fun hHeld => ?_)
            clear hK K
            refine wpAnyH_take (i := 19) (v := ?_) rfl (by kernel_rfl) (by kernel_rfl) (by kernel_rfl) (fun _ _ _ h => h) (Or.inl ⟨by rfl, ?_⟩) (by assumption) ?_
            rotate_left
            · (intro w hSw; (try dsimp only at hSw); go_simp); all_goals (with_reducible rfl)
            simp only [List.getElem_toArray, List.getElem_cons_succ, List.getElem_cons_zero, Act.put, List.setIfInBounds_toArray, List.set_cons_zero, List.set_cons_succ]
            refine wpAnyH_take (i := 20) (v := ?_) rfl (by kernel_rfl) (by kernel_rfl) (by kernel_rfl) (fun _ _ _ h => h) (Or.inl ⟨by rfl, ?_⟩) (by assumption) ?_
            rotate_left
            · (intro w hSw; (try dsimp only at hSw); go_simp); all_goals (with_reducible rfl)
            simp only [List.getElem_toArray, List.getElem_cons_succ, List.getElem_cons_zero, Act.put, List.setIfInBounds_toArray, List.set_cons_zero, List.set_cons_succ]
            refine wpAnyH_ready (rs := [21]) (by kernel_rfl) (by simp) (AllReadyH.cons rfl (fun K hK => ?_) AllReadyH.nil)
            go_simp
            refine hK.out _ _ (HBX.out _ HE6.out.2.2.2) (fun hHeld => ?_)
            clear hK K
            refine wpAnyH_done (by kernel_rfl) ?_ _
            go_wp2_with fail
            go_ret
            exact .inr ⟨HR.out, rfl, HFIN.out _ _ _ HE6.out.1⟩
        ·
          go_simp
          refine hK.out _ _ (HBX.out _ ((HI0.out.alloc (.cells #[.int .i64 n] 3)).alloc (.cells #[.string (Em.str op), .int .i64 tn, .slice a tl.length cap] 25)).blk) (fun hHeld => ?_)
          clear hK K
          refine wpAnyH_ready (rs := [8, 12]) (by kernel_rfl) (by simp) (AllReadyH.cons rfl (fun K hK => ?_) (AllReadyH.cons rfl (fun K hK => ?_) AllReadyH.nil))
          ·
            refine step_sayV (w := w2) (by rfl) _ _ (by rfl) n _ (by rfl) (by rfl) ((HI0.out.alloc (.cells #[.int .i64 n] 3)).alloc (.cells #[.string (Em.str op), .int .i64 tn, .slice a tl.length cap] 25)) (by simp [go_sem]) hdl1 ?_
            intro v5 X5 hI5 hg5
            obtain ⟨xa, xc, hxe⟩ := hI5.own.form
            have hxf : v5 = .slice xa (D.length + 1) xc := by rw [hxe]; simp
            subst hxf
            have HI5 : Hid (SayI w2 X5 B Z sb (.slice va D.length vc) (.slice ta D.length tc) (.slice xa (D.length + 1) xc) (.slice ta D.length tc) (D.map (·.1) ++ [n]) (D.map (·.2)) N T (.agg #[.string (Em.str op), .int .i64 tn, .slice a tl.length cap])) := hI5
            have HT5 : Hid (X5.cell? ⟨w2.heap.size + 1, 0, none⟩ = some (.string (Em.str op)) ∧ X5.cell? ⟨w2.heap.size + 1, 1, none⟩ = some (.int .i64 tn) ∧ X5.cell? ⟨w2.heap.size + 1, 2, none⟩ = some (.slice a tl.length cap)) := ⟨hg5.cell (by simp [go_sem]) HVN1.out, hg5.cell (by simp [go_sem]) HVN1.out, hg5.cell (by simp [go_sem]) HVN1.out⟩
            refine hK.out _ _ (HBX.out _ hI5.blk) (fun hHeld => ?_)
            clear hK K hxe hI5 hg5
            refine wpAnyH_ready (rs := [12]) (by kernel_rfl) (by simp) (AllReadyH.cons rfl (fun K hK => ?_) AllReadyH.nil)
            have hcc := HI5.out.c1
            go_simp
            refine hK.out _ _ (HBX.out _ HI5.out.blk) (fun hHeld => ?_)
            clear hK K hcc
            refine wpAnyH_ready (rs := [15]) (by kernel_rfl) (by simp) (AllReadyH.cons rfl (fun K hK => ?_) AllReadyH.nil)
            refine step_sayT (w := w2) (by rfl) _ _ (by rfl) _ (by rfl) (by rfl) HI5.out HT5.out hdl2 ?_
            intro t6 X6 h6
            obtain ⟨ya, yc, hye, -, -⟩ := ownTys_form h6.2.2.1
            have hyf : t6 = .slice ya (D.length + 1) yc := by rw [hye]; simp
            subst hyf
            have s06 := h6.1.1
            have s16 := h6.1.2.1
            have f6 := h6.1.2.2.2
            have HE6 : Hid _ := say_done HI5.out.nv hsb' HI5.out.vn hi64 h6
            refine hK.out _ _ (HBX.out _ HE6.out.2.1) (fun hHeld => ?_)
            clear hK K hye h6
            refine wpAnyH_take (i := 16) (v := ?_) rfl (by kernel_rfl) (by kernel_rfl) (by kernel_rfl) (fun _ _ _ h => h) (Or.inl ⟨by rfl, ?_⟩) (by assumption) ?_
            rotate_left
            · (intro w hSw; (try dsimp only at hSw); go_simp); all_goals (with_reducible rfl)
            simp only [List.getElem_toArray, List.getElem_cons_succ, List.getElem_cons_zero, Act.put, List.setIfInBounds_toArray, List.set_cons_zero, List.set_cons_succ]
            refine wpAnyH_take (i := 17) (v := ?_) rfl (by kernel_rfl) (by kernel_rfl) (by kernel_rfl) (fun _ _ _ h => h) (Or.inl ⟨by rfl, ?_⟩) (by assumption) ?_
            rotate_left
            · (intro w hSw; (try dsimp only at hSw); go_simp); all_goals (with_reducible rfl)
            simp only [List.getElem_toArray, List.getElem_cons_succ, List.getElem_cons_zero, Act.put, List.setIfInBounds_toArray, List.set_cons_zero, List.set_cons_succ]
            refine wpAnyH_ready (rs := [18]) (by kernel_rfl) (by simp) (AllReadyH.cons rfl (fun K hK => ?_) AllReadyH.nil)
            go_simp
            refine hK.out _ _ (HBX.out _ HE6.out.2.2.1) (fun hHeld => ?_)
            clear hK K
            refine wpAnyH_take (i := 19) (v := ?_) rfl (by kernel_rfl) (by kernel_rfl) (by kernel_rfl) (fun _ _ _ h => h) (Or.inl ⟨by rfl, ?_⟩) (by assumption) ?_
            rotate_left
            · (intro w hSw; (try dsimp only at hSw); go_simp); all_goals (with_reducible rfl)
            simp only [List.getElem_toArray, List.getElem_cons_succ, List.getElem_cons_zero, Act.put, List.setIfInBounds_toArray, List.set_cons_zero, List.set_cons_succ]
            refine wpAnyH_take (i := 20) (v := ?_) rfl (by kernel_rfl) (by kernel_rfl) (by kernel_rfl) (fun _ _ _ h => h) (Or.inl ⟨by rfl, ?_⟩) (by assumption) ?_
            rotate_left
            · (intro w hSw; (try dsimp only at hSw); go_simp); all_goals (with_reducible rfl)
            simp only [List.getElem_toArray, List.getElem_cons_succ, List.getElem_cons_zero, Act.put, List.setIfInBounds_toArray, List.set_cons_zero, List.set_cons_succ]
            refine wpAnyH_ready (rs := [21]) (by kernel_rfl) (by simp) (AllReadyH.cons rfl (fun K hK => ?_) AllReadyH.nil)
            go_simp
            refine hK.out _ _ (HBX.out _ HE6.out.2.2.2) (fun hHeld => ?_)
            clear hK K
            refine wpAnyH_done (by kernel_rfl) ?_ _
            go_wp2_with fail
            go_ret
            exact .inr ⟨HR.out, rfl, HFIN.out _ _ _ HE6.out.1⟩
          ·
            have hcc := ((HI0.out.alloc (.cells #[.int .i64 n] 3)).alloc (.cells #[.string (Em.str op), .int .i64 tn, .slice a tl.length cap] 25)).c1
            go_simp
            refine hK.out _ _ (HBX.out _ ((HI0.out.alloc (.cells #[.int .i64 n] 3)).alloc (.cells #[.string (Em.str op), .int .i64 tn, .slice a tl.length cap] 25)).blk) (fun hHeld => ?_)
            clear hK K hcc
            refine wpAnyH_ready (rs := [8]) (by kernel_rfl) (by simp) (AllReadyH.cons rfl (fun K hK => ?_) AllReadyH.nil)
            refine step_sayV (w := w2) (by rfl) _ _ (by rfl) n _ (by rfl) (by rfl) ((HI0.out.alloc (.cells #[.int .i64 n] 3)).alloc (.cells #[.string (Em.str op), .int .i64 tn, .slice a tl.length cap] 25)) (by simp [go_sem]) hdl1 ?_
            intro v5 X5 hI5 hg5
            obtain ⟨xa, xc, hxe⟩ := hI5.own.form
            have hxf : v5 = .slice xa (D.length + 1) xc := by rw [hxe]; simp
            subst hxf
            have HI5 : Hid (SayI w2 X5 B Z sb (.slice va D.length vc) (.slice ta D.length tc) (.slice xa (D.length + 1) xc) (.slice ta D.length tc) (D.map (·.1) ++ [n]) (D.map (·.2)) N T (.agg #[.string (Em.str op), .int .i64 tn, .slice a tl.length cap])) := hI5
            have HT5 : Hid (X5.cell? ⟨w2.heap.size + 1, 0, none⟩ = some (.string (Em.str op)) ∧ X5.cell? ⟨w2.heap.size + 1, 1, none⟩ = some (.int .i64 tn) ∧ X5.cell? ⟨w2.heap.size + 1, 2, none⟩ = some (.slice a tl.length cap)) := ⟨hg5.cell (by simp [go_sem]) HVN1.out, hg5.cell (by simp [go_sem]) HVN1.out, hg5.cell (by simp [go_sem]) HVN1.out⟩
            refine hK.out _ _ (HBX.out _ hI5.blk) (fun hHeld => ?_)
            clear hK K hxe hI5 hg5
            refine wpAnyH_ready (rs := [15]) (by kernel_rfl) (by simp) (AllReadyH.cons rfl (fun K hK => ?_) AllReadyH.nil)
            refine step_sayT (w := w2) (by rfl) _ _ (by rfl) _ (by rfl) (by rfl) HI5.out HT5.out hdl2 ?_
            intro t6 X6 h6
            obtain ⟨ya, yc, hye, -, -⟩ := ownTys_form h6.2.2.1
            have hyf : t6 = .slice ya (D.length + 1) yc := by rw [hye]; simp
            subst hyf
            have s06 := h6.1.1
            have s16 := h6.1.2.1
            have f6 := h6.1.2.2.2
            have HE6 : Hid _ := say_done HI5.out.nv hsb' HI5.out.vn hi64 h6
            refine hK.out _ _ (HBX.out _ HE6.out.2.1) (fun hHeld => ?_)
            clear hK K hye h6
            refine wpAnyH_take (i := 16) (v := ?_) rfl (by kernel_rfl) (by kernel_rfl) (by kernel_rfl) (fun _ _ _ h => h) (Or.inl ⟨by rfl, ?_⟩) (by assumption) ?_
            rotate_left
            · (intro w hSw; (try dsimp only at hSw); go_simp); all_goals (with_reducible rfl)
            simp only [List.getElem_toArray, List.getElem_cons_succ, List.getElem_cons_zero, Act.put, List.setIfInBounds_toArray, List.set_cons_zero, List.set_cons_succ]
            refine wpAnyH_take (i := 17) (v := ?_) rfl (by kernel_rfl) (by kernel_rfl) (by kernel_rfl) (fun _ _ _ h => h) (Or.inl ⟨by rfl, ?_⟩) (by assumption) ?_
            rotate_left
            · (intro w hSw; (try dsimp only at hSw); go_simp); all_goals (with_reducible rfl)
            simp only [List.getElem_toArray, List.getElem_cons_succ, List.getElem_cons_zero, Act.put, List.setIfInBounds_toArray, List.set_cons_zero, List.set_cons_succ]
            refine wpAnyH_ready (rs := [18]) (by kernel_rfl) (by simp) (AllReadyH.cons rfl (fun K hK => ?_) AllReadyH.nil)
            go_simp
            refine hK.out _ _ (HBX.out _ HE6.out.2.2.1) (fun hHeld => ?_)
            clear hK K
            refine wpAnyH_take (i := 19) (v := ?_) rfl (by kernel_rfl) (by kernel_rfl) (by kernel_rfl) (fun _ _ _ h => h) (Or.inl ⟨by rfl, ?_⟩) (by assumption) ?_
            rotate_left
            · (intro w hSw; (try dsimp only at hSw); go_simp); all_goals (with_reducible rfl)
            simp only [List.getElem_toArray, List.getElem_cons_succ, List.getElem_cons_zero, Act.put, List.setIfInBounds_toArray, List.set_cons_zero, List.set_cons_succ]
            refine wpAnyH_take (i := 20) (v := ?_) rfl (by kernel_rfl) (by kernel_rfl) (by kernel_rfl) (fun _ _ _ h => h) (Or.inl ⟨by rfl, ?_⟩) (by assumption) ?_
            rotate_left
            · (intro w hSw; (try dsimp only at hSw); go_simp); all_goals (with_reducible rfl)
            simp only [List.getElem_toArray, List.getElem_cons_succ, List.getElem_cons_zero, Act.put, List.setIfInBounds_toArray, List.set_cons_zero, List.set_cons_succ]
            refine wpAnyH_ready (rs := [21]) (by kernel_rfl) (by simp) (AllReadyH.cons rfl (fun K hK => ?_) AllReadyH.nil)
            go_simp
            refine hK.out _ _ (HBX.out _ HE6.out.2.2.2) (fun hHeld => ?_)
            clear hK K
            refine wpAnyH_done (by kernel_rfl) ?_ _
            go_wp2_with fail
            go_ret
            exact .inr ⟨HR.out, rfl, HFIN.out _ _ _ HE6.out.1⟩
      ·
        have hcc := (HI0.out.alloc (.cells #[.int .i64 n] 3)).c1
        go_simp
        refine hK.out _ _ (HBX.out _ (HI0.out.alloc (.cells #[.int .i64 n] 3)).blk) (fun hHeld => ?_)
        clear hK K hcc
        refine wpAnyH_ready (rs := [5, 14]) (by kernel_rfl) (by simp) (AllReadyH.cons rfl (fun K hK => ?_) (AllReadyH.cons rfl (fun K hK => ?_) AllReadyH.nil))
        ·
          have hcc := (HI0.out.alloc (.cells #[.int .i64 n] 3)).c0
          go_simp
          refine hK.out _ _ (HBX.out _ (HI0.out.alloc (.cells #[.int .i64 n] 3)).blk) (fun hHeld => ?_)
          clear hK K hcc
          refine wpAnyH_ready (rs := [8, 14]) (by kernel_rfl) (by simp) (AllReadyH.cons rfl (fun K hK => ?_) (AllReadyH.cons rfl (fun K hK => ?_) AllReadyH.nil))
          ·
            refine step_sayV (w := w2) (by rfl) _ _ (by rfl) n _ (by rfl) (by rfl) (HI0.out.alloc (.cells #[.int .i64 n] 3)) (by simp [go_sem]) hdl1 ?_
            intro v5 X5 hI5 hg5
            obtain ⟨xa, xc, hxe⟩ := hI5.own.form
            have hxf : v5 = .slice xa (D.length + 1) xc := by rw [hxe]; simp
            subst hxf
            have HI5 : Hid (SayI w2 X5 B Z sb (.slice va D.length vc) (.slice ta D.length tc) (.slice xa (D.length + 1) xc) (.slice ta D.length tc) (D.map (·.1) ++ [n]) (D.map (·.2)) N T (.agg #[.string (Em.str op), .int .i64 tn, .slice a tl.length cap])) := hI5
            refine hK.out _ _ (HBX.out _ hI5.blk) (fun hHeld => ?_)
            clear hK K hxe hI5 hg5
            refine wpAnyH_ready (rs := [14]) (by kernel_rfl) (by simp) (AllReadyH.cons rfl (fun K hK => ?_) AllReadyH.nil)
            go_simp
            refine hK.out _ _ (HBX.out _ (HI5.out.alloc (.cells #[.string (Em.str op), .int .i64 tn, .slice a tl.length cap] 25)).blk) (fun hHeld => ?_)
            clear hK K
            refine wpAnyH_ready (rs := [15]) (by kernel_rfl) (by simp) (AllReadyH.cons rfl (fun K hK => ?_) AllReadyH.nil)
            refine step_sayT (w := w2) (by rfl) _ _ (by rfl) _ (by rfl) (by rfl) (HI5.out.alloc (.cells #[.string (Em.str op), .int .i64 tn, .slice a tl.length cap] 25)) ⟨by simp [go_sem], by simp [go_sem], by simp [go_sem]⟩ hdl2 ?_
            intro t6 X6 h6
            obtain ⟨ya, yc, hye, -, -⟩ := ownTys_form h6.2.2.1
            have hyf : t6 = .slice ya (D.length + 1) yc := by rw [hye]; simp
            subst hyf
            have s06 := h6.1.1
            have s16 := h6.1.2.1
            have f6 := h6.1.2.2.2
            have HE6 : Hid _ := say_done HI5.out.nv hsb' HI5.out.vn hi64 h6
            refine hK.out _ _ (HBX.out _ HE6.out.2.1) (fun hHeld => ?_)
            clear hK K hye h6
            refine wpAnyH_take (i := 16) (v := ?_) rfl (by kernel_rfl) (by kernel_rfl) (by kernel_rfl) (fun _ _ _ h => h) (Or.inl ⟨by rfl, ?_⟩) (by assumption) ?_
            rotate_left
            · (intro w hSw; (try dsimp only at hSw); go_simp); all_goals (with_reducible rfl)
            simp only [List.getElem_toArray, List.getElem_cons_succ, List.getElem_cons_zero, Act.put, List.setIfInBounds_toArray, List.set_cons_zero, List.set_cons_succ]
            refine wpAnyH_take (i := 17) (v := ?_) rfl (by kernel_rfl) (by kernel_rfl) (by kernel_rfl) (fun _ _ _ h => h) (Or.inl ⟨by rfl, ?_⟩) (by assumption) ?_
            rotate_left
            · (intro w hSw; (try dsimp only at hSw); go_simp); all_goals (with_reducible rfl)
            simp only [List.getElem_toArray, List.getElem_cons_succ, List.getElem_cons_zero, Act.put, List.setIfInBounds_toArray, List.set_cons_zero, List.set_cons_succ]
            refine wpAnyH_ready (rs := [18]) (by kernel_rfl) (by simp) (AllReadyH.cons rfl (fun K hK => ?_) AllReadyH.nil)
            go_simp
            refine hK.out _ _ (HBX.out _ HE6.out.2.2.1) (fun hHeld => ?_)
            clear hK K
            refine wpAnyH_take (i := 19) (v := ?_) rfl (by kernel_rfl) (by kernel_rfl) (by kernel_rfl) (fun _ _ _ h => h) (Or.inl ⟨by rfl, ?_⟩) (by assumption) ?_
            rotate_left
            · (intro w hSw; (try dsimp only at hSw); go_simp); all_goals (with_reducible rfl)
            simp only [List.getElem_toArray, List.getElem_cons_succ, List.getElem_cons_zero, Act.put, List.setIfInBounds_toArray, List.set_cons_zero, List.set_cons_succ]
            refine wpAnyH_take (i := 20) (v := ?_) rfl (by kernel_rfl) (by kernel_rfl) (by kernel_rfl) (fun _ _ _ h => h) (Or.inl ⟨by rfl, ?_⟩) (by assumption) ?_
            rotate_left
            · (intro w hSw; (try dsimp only at hSw); go_simp); all_goals (with_reducible rfl)
            simp only [List.getElem_toArray, List.getElem_cons_succ, List.getElem_cons_zero, Act.put, List.setIfInBounds_toArray, List.set_cons_zero, List.set_cons_succ]
            refine wpAnyH_ready (rs := [21]) (by kernel_rfl) (by simp) (AllReadyH.cons rfl (fun K hK => ?_) AllReadyH.nil)
            go_simp
            refine hK.out _ _ (HBX.out _ HE6.out.2.2.2) (fun hHeld => ?_)
            clear hK K
            refine wpAnyH_done (by kernel_rfl) ?_ _
            go_wp2_with fail
            go_ret
            exact .inr ⟨HR.out, rfl, HFIN.out _ _ _ HE6.out.1⟩
          ·
            go_simp
            refine hK.out _ _ (HBX.out _ ((HI0.out.alloc (.cells #[.int .i64 n] 3)).alloc (.cells #[.string (Em.str op), .int .i64 tn, .slice a tl.length cap] 25)).blk) (fun hHeld => ?_)
            clear hK K
            refine wpAnyH_ready (rs := [8]) (by kernel_rfl) (by simp) (AllReadyH.cons rfl (fun K hK => ?_) AllReadyH.nil)
            refine step_sayV (w := w2) (by rfl) _ _ (by rfl) n _ (by rfl) (by rfl) ((HI0.out.alloc (.cells #[.int .i64 n] 3)).alloc (.cells #[.string (Em.str op), .int .i64 tn, .slice a tl.length cap] 25)) (by simp [go_sem]) hdl1 ?_
            intro v5 X5 hI5 hg5
            obtain ⟨xa, xc, hxe⟩ := hI5.own.form
            have hxf : v5 = .slice xa (D.length + 1) xc := by rw [hxe]; simp
            subst hxf
            have HI5 : Hid (SayI w2 X5 B Z sb (.slice va D.length vc) (.slice ta D.length tc) (.slice xa (D.length + 1) xc) (.slice ta D.length tc) (D.map (·.1) ++ [n]) (D.map (·.2)) N T (.agg #[.string (Em.str op), .int .i64 tn, .slice a tl.length cap])) := hI5
            have HT5 : Hid (X5.cell? ⟨w2.heap.size + 1, 0, none⟩ = some (.string (Em.str op)) ∧ X5.cell? ⟨w2.heap.size + 1, 1, none⟩ = some (.int .i64 tn) ∧ X5.cell? ⟨w2.heap.size + 1, 2, none⟩ = some (.slice a tl.length cap)) := ⟨hg5.cell (by simp [go_sem]) HVN1.out, hg5.cell (by simp [go_sem]) HVN1.out, hg5.cell (by simp [go_sem]) HVN1.out⟩
            refine hK.out _ _ (HBX.out _ hI5.blk) (fun hHeld => ?_)
            clear hK K hxe hI5 hg5
            refine wpAnyH_ready (rs := [15]) (by kernel_rfl) (by simp) (AllReadyH.cons rfl (fun K hK => ?_) AllReadyH.nil)
            refine step_sayT (w := w2) (by rfl) _ _ (by rfl) _ (by rfl) (by rfl) HI5.out HT5.out hdl2 ?_
            intro t6 X6 h6
            obtain ⟨ya, yc, hye, -, -⟩ := ownTys_form h6.2.2.1
            have hyf : t6 = .slice ya (D.length + 1) yc := by rw [hye]; simp
            subst hyf
            have s06 := h6.1.1
            have s16 := h6.1.2.1
            have f6 := h6.1.2.2.2
            have HE6 : Hid _ := say_done HI5.out.nv hsb' HI5.out.vn hi64 h6
            refine hK.out _ _ (HBX.out _ HE6.out.2.1) (fun hHeld => ?_)
            clear hK K hye h6
            refine wpAnyH_take (i := 16) (v := ?_) rfl (by kernel_rfl) (by kernel_rfl) (by kernel_rfl) (fun _ _ _ h => h) (Or.inl ⟨by rfl, ?_⟩) (by assumption) ?_
            rotate_left
            · (intro w hSw; (try dsimp only at hSw); go_simp); all_goals (with_reducible rfl)
            simp only [List.getElem_toArray, List.getElem_cons_succ, List.getElem_cons_zero, Act.put, List.setIfInBounds_toArray, List.set_cons_zero, List.set_cons_succ]
            refine wpAnyH_take (i := 17) (v := ?_) rfl (by kernel_rfl) (by kernel_rfl) (by kernel_rfl) (fun _ _ _ h => h) (Or.inl ⟨by rfl, ?_⟩) (by assumption) ?_
            rotate_left
            · (intro w hSw; (try dsimp only at hSw); go_simp); all_goals (with_reducible rfl)
            simp only [List.getElem_toArray, List.getElem_cons_succ, List.getElem_cons_zero, Act.put, List.setIfInBounds_toArray, List.set_cons_zero, List.set_cons_succ]
            refine wpAnyH_ready (rs := [18]) (by kernel_rfl) (by simp) (AllReadyH.cons rfl (fun K hK => ?_) AllReadyH.nil)
            go_simp
            refine hK.out _ _ (HBX.out _ HE6.out.2.2.1) (fun hHeld => ?_)
            clear hK K
            refine wpAnyH_take (i := 19) (v := ?_) rfl (by kernel_rfl) (by kernel_rfl) (by kernel_rfl) (fun _ _ _ h => h) (Or.inl ⟨by rfl, ?_⟩) (by assumption) ?_
            rotate_left
            · (intro w hSw; (try dsimp only at hSw); go_simp); all_goals (with_reducible rfl)
            simp only [List.getElem_toArray, List.getElem_cons_succ, List.getElem_cons_zero, Act.put, List.setIfInBounds_toArray, List.set_cons_zero, List.set_cons_succ]
            refine wpAnyH_take (i := 20) (v := ?_) rfl (by kernel_rfl) (by kernel_rfl) (by kernel_rfl) (fun _ _ _ h => h) (Or.inl ⟨by rfl, ?_⟩) (by assumption) ?_
            rotate_left
            · (intro w hSw; (try dsimp only at hSw); go_simp); all_goals (with_reducible rfl)
            simp only [List.getElem_toArray, List.getElem_cons_succ, List.getElem_cons_zero, Act.put, List.setIfInBounds_toArray, List.set_cons_zero, List.set_cons_succ]
            refine wpAnyH_ready (rs := [21]) (by kernel_rfl) (by simp) (AllReadyH.cons rfl (fun K hK => ?_) AllReadyH.nil)
            go_simp
            refine hK.out _ _ (HBX.out _ HE6.out.2.2.2) (fun hHeld => ?_)
            clear hK K
            refine wpAnyH_done (by kernel_rfl) ?_ _
            go_wp2_with fail
            go_ret
            exact .inr ⟨HR.out, rfl, HFIN.out _ _ _ HE6.out.1⟩
        ·
          go_simp
          refine hK.out _ _ (HBX.out _ ((HI0.out.alloc (.cells #[.int .i64 n] 3)).alloc (.cells #[.string (Em.str op), .int .i64 tn, .slice a tl.length cap] 25)).blk) (fun hHeld => ?_)
          clear hK K
          refine wpAnyH_ready (rs := [5]) (by kernel_rfl) (by simp) (AllReadyH.cons rfl (fun K hK => ?_) AllReadyH.nil)
          have hcc := ((HI0.out.alloc (.cells #[.int .i64 n] 3)).alloc (.cells #[.string (Em.str op), .int .i64 tn, .slice a tl.length cap] 25)).c0
          go_simp
          refine hK.out _ _ (HBX.out _ ((HI0.out.alloc (.cells #[.int .i64 n] 3)).alloc (.cells #[.string (Em.str op), .int .i64 tn, .slice a tl.length cap] 25)).blk) (fun hHeld => ?_)
          clear hK K hcc
          refine wpAnyH_ready (rs := [8]) (by kernel_rfl) (by simp) (AllReadyH.cons rfl (fun K hK => ?_) AllReadyH.nil)
          refine step_sayV (w := w2) (by rfl) _ _ (by rfl) n _ (by rfl) (by rfl) ((HI0.out.alloc (.cells #[.int .i64 n] 3)).alloc (.cells #[.string (Em.str op), .int .i64 tn, .slice a tl.length cap] 25)) (by simp [go_sem]) hdl1 ?_
          intro v5 X5 hI5 hg5
          obtain ⟨xa, xc, hxe⟩ := hI5.own.form
          have hxf : v5 = .slice xa (D.length + 1) xc := by rw [hxe]; simp
          subst hxf
          have HI5 : Hid (SayI w2 X5 B Z sb (.slice va D.length vc) (.slice ta D.length tc) (.slice xa (D.length + 1) xc) (.slice ta D.length tc) (D.map (·.1) ++ [n]) (D.map (·.2)) N T (.agg #[.string (Em.str op), .int .i64 tn, .slice a tl.length cap])) := hI5
          have HT5 : Hid (X5.cell? ⟨w2.heap.size + 1, 0, none⟩ = some (.string (Em.str op)) ∧ X5.cell? ⟨w2.heap.size + 1, 1, none⟩ = some (.int .i64 tn) ∧ X5.cell? ⟨w2.heap.size + 1, 2, none⟩ = some (.slice a tl.length cap)) := ⟨hg5.cell (by simp [go_sem]) HVN1.out, hg5.cell (by simp [go_sem]) HVN1.out, hg5.cell (by simp [go_sem]) HVN1.out⟩
          refine hK.out _ _ (HBX.out _ hI5.blk) (fun hHeld => ?_)
          clear hK K hxe hI5 hg5
          refine wpAnyH_ready (rs := [15]) (by kernel_rfl) (by simp) (AllReadyH.cons rfl (fun K hK => ?_) AllReadyH.nil)
          refine step_sayT (w := w2) (by rfl) _ _ (by rfl) _ (by rfl) (by rfl) HI5.out HT5.out hdl2 ?_
          intro t6 X6 h6
          obtain ⟨ya, yc, hye, -, -⟩ := ownTys_form h6.2.2.1
          have hyf : t6 = .slice ya (D.length + 1) yc := by rw [hye]; simp
          subst hyf
          have s06 := h6.1.1
          have s16 := h6.1.2.1
          have f6 := h6.1.2.2.2
          have HE6 : Hid _ := say_done HI5.out.nv hsb' HI5.out.vn hi64 h6
          refine hK.out _ _ (HBX.out _ HE6.out.2.1) (fun hHeld => ?_)
          clear hK K hye h6
          refine wpAnyH_take (i := 16) (v := ?_) rfl (by kernel_rfl) (by kernel_rfl) (by kernel_rfl) (fun _ _ _ h => h) (Or.inl ⟨by rfl, ?_⟩) (by assumption) ?_
          rotate_left
          · (intro w hSw; (try dsimp only at hSw); go_simp); all_goals (with_reducible rfl)
          simp only [List.getElem_toArray, List.getElem_cons_succ, List.getElem_cons_zero, Act.put, List.setIfInBounds_toArray, List.set_cons_zero, List.set_cons_succ]
          refine wpAnyH_take (i := 17) (v := ?_) rfl (by kernel_rfl) (by kernel_rfl) (by kernel_rfl) (fun _ _ _ h => h) (Or.inl ⟨by rfl, ?_⟩) (by assumption) ?_
          rotate_left
          · (intro w hSw; (try dsimp only at hSw); go_simp); all_goals (with_reducible rfl)
          simp only [List.getElem_toArray, List.getElem_cons_succ, List.getElem_cons_zero, Act.put, List.setIfInBounds_toArray, List.set_cons_zero, List.set_cons_succ]
          refine wpAnyH_ready (rs := [18]) (by kernel_rfl) (by simp) (AllReadyH.cons rfl (fun K hK => ?_) AllReadyH.nil)
          go_simp
          refine hK.out _ _ (HBX.out _ HE6.out.2.2.1) (fun hHeld => ?_)
          clear hK K
          refine wpAnyH_take (i := 19) (v := ?_) rfl (by kernel_rfl) (by kernel_rfl) (by kernel_rfl) (fun _ _ _ h => h) (Or.inl ⟨by rfl, ?_⟩) (by assumption) ?_
          rotate_left
          · (intro w hSw; (try dsimp only at hSw); go_simp); all_goals (with_reducible rfl)
          simp only [List.getElem_toArray, List.getElem_cons_succ, List.getElem_cons_zero, Act.put, List.setIfInBounds_toArray, List.set_cons_zero, List.set_cons_succ]
          refine wpAnyH_take (i := 20) (v := ?_) rfl (by kernel_rfl) (by kernel_rfl) (by kernel_rfl) (fun _ _ _ h => h) (Or.inl ⟨by rfl, ?_⟩) (by assumption) ?_
          rotate_left
          · (intro w hSw; (try dsimp only at hSw); go_simp); all_goals (with_reducible rfl)
          simp only [List.getElem_toArray, List.getElem_cons_succ, List.getElem_cons_zero, Act.put, List.setIfInBounds_toArray, List.set_cons_zero, List.set_cons_succ]
          refine wpAnyH_ready (rs := [21]) (by kernel_rfl) (by simp) (AllReadyH.cons rfl (fun K hK => ?_) AllReadyH.nil)
          go_simp
          refine hK.out _ _ (HBX.out _ HE6.out.2.2.2) (fun hHeld => ?_)
          clear hK K
          refine wpAnyH_done (by kernel_rfl) ?_ _
          go_wp2_with fail
          go_ret
          exact .inr ⟨HR.out, rfl, HFIN.out _ _ _ HE6.out.1⟩
      ·
        go_simp
        refine hK.out _ _ (HBX.out _ ((HI0.out.alloc (.cells #[.int .i64 n] 3)).alloc (.cells #[.string (Em.str op), .int .i64 tn, .slice a tl.length cap] 25)).blk) (fun hHeld => ?_)
        clear hK K
        refine wpAnyH_ready (rs := [5, 12]) (by kernel_rfl) (by simp) (AllReadyH.cons rfl (fun K hK => ?_) (AllReadyH.cons rfl (fun K hK => ?_) AllReadyH.nil))
        ·
          have hcc := ((HI0.out.alloc (.cells #[.int .i64 n] 3)).alloc (.cells #[.string (Em.str op), .int .i64 tn, .slice a tl.length cap] 25)).c0
          go_simp
          refine hK.out _ _ (HBX.out _ ((HI0.out.alloc (.cells #[.int .i64 n] 3)).alloc (.cells #[.string (Em.str op), .int .i64 tn, .slice a tl.length cap] 25)).blk) (fun hHeld => ?_)
          clear hK K hcc
          refine wpAnyH_ready (rs := [8, 12]) (by kernel_rfl) (by simp) (AllReadyH.cons rfl (fun K hK => ?_) (AllReadyH.cons rfl (fun K hK => ?_) AllReadyH.nil))
          ·
            refine step_sayV (w := w2) (by rfl) _ _ (by rfl) n _ (by rfl) (by rfl) ((HI0.out.alloc (.cells #[.int .i64 n] 3)).alloc (.cells #[.string (Em.str op), .int .i64 tn, .slice a tl.length cap] 25)) (by simp [go_sem]) hdl1 ?_
            intro v5 X5 hI5 hg5
            obtain ⟨xa, xc, hxe⟩ := hI5.own.form
            have hxf : v5 = .slice xa (D.length + 1) xc := by rw [hxe]; simp
            subst hxf
            have HI5 : Hid (SayI w2 X5 B Z sb (.slice va D.length vc) (.slice ta D.length tc) (.slice xa (D.length + 1) xc) (.slice ta D.length tc) (D.map (·.1) ++ [n]) (D.map (·.2)) N T (.agg #[.string (Em.str op), .int .i64 tn, .slice a tl.length cap])) := hI5
            have HT5 : Hid (X5.cell? ⟨w2.heap.size + 1, 0, none⟩ = some (.string (Em.str op)) ∧ X5.cell? ⟨w2.heap.size + 1, 1, none⟩ = some (.int .i64 tn) ∧ X5.cell? ⟨w2.heap.size + 1, 2, none⟩ = some (.slice a tl.length cap)) := ⟨hg5.cell (by simp [go_sem]) HVN1.out, hg5.cell (by simp [go_sem]) HVN1.out, hg5.cell (by simp [go_sem]) HVN1.out⟩
            refine hK.out _ _ (HBX.out _ hI5.blk) (fun hHeld => ?_)
            clear hK K hxe hI5 hg5
            refine wpAnyH_ready (rs := [12]) (by kernel_rfl) (by simp) (AllReadyH.cons rfl (fun K hK => ?_) AllReadyH.nil)
            have hcc := HI5.out.c1
            go_simp
            refine hK.out _ _ (HBX.out _ HI5.out.blk) (fun hHeld => ?_)
            clear hK K hcc
            refine wpAnyH_ready (rs := [15]) (by kernel_rfl) (by simp) (AllReadyH.cons rfl (fun K hK => ?_) AllReadyH.nil)
            refine step_sayT (w := w2) (by rfl) _ _ (by rfl) _ (by rfl) (by rfl) HI5.out HT5.out hdl2 ?_
            intro t6 X6 h6
            obtain ⟨ya, yc, hye, -, -⟩ := ownTys_form h6.2.2.1
            have hyf : t6 = .slice ya (D.length + 1) yc := by rw [hye]; simp
            subst hyf
            have s06 := h6.1.1
            have s16 := h6.1.2.1
            have f6 := h6.1.2.2.2
            have HE6 : Hid _ := say_done HI5.out.nv hsb' HI5.out.vn hi64 h6
            refine hK.out _ _ (HBX.out _ HE6.out.2.1) (fun hHeld => ?_)
            clear hK K hye h6
            refine wpAnyH_take (i := 16) (v := ?_) rfl (by kernel_rfl) (by kernel_rfl) (by kernel_rfl) (fun _ _ _ h => h) (Or.inl ⟨by rfl, ?_⟩) (by assumption) ?_
            rotate_left
            · (intro w hSw; (try dsimp only at hSw); go_simp); all_goals (with_reducible rfl)
            simp only [List.getElem_toArray, List.getElem_cons_succ, List.getElem_cons_zero, Act.put, List.setIfInBounds_toArray, List.set_cons_zero, List.set_cons_succ]
            refine wpAnyH_take (i := 17) (v := ?_) rfl (by kernel_rfl) (by kernel_rfl) (by kernel_rfl) (fun _ _ _ h => h) (Or.inl ⟨by rfl, ?_⟩) (by assumption) ?_
            rotate_left
            · (intro w hSw; (try dsimp only at hSw); go_simp); all_goals (with_reducible rfl)
            simp only [List.getElem_toArray, List.getElem_cons_succ, List.getElem_cons_zero, Act.put, List.setIfInBounds_toArray, List.set_cons_zero, List.set_cons_succ]
            refine wpAnyH_ready (rs := [18]) (by kernel_rfl) (by simp) (AllReadyH.cons rfl (fun K hK => ?_) AllReadyH.nil)
            go_simp
            refine hK.out _ _ (HBX.out _ HE6.out.2.2.1) (fun hHeld => ?_)
            clear hK K
            refine wpAnyH_take (i := 19) (v := ?_) rfl (by kernel_rfl) (by kernel_rfl) (by kernel_rfl) (fun _ _ _ h => h) (Or.inl ⟨by rfl, ?_⟩) (by assumption) ?_
            rotate_left
            · (intro w hSw; (try dsimp only at hSw); go_simp); all_goals (with_reducible rfl)
            simp only [List.getElem_toArray, List.getElem_cons_succ, List.getElem_cons_zero, Act.put, List.setIfInBounds_toArray, List.set_cons_zero, List.set_cons_succ]
            refine wpAnyH_take (i := 20) (v := ?_) rfl (by kernel_rfl) (by kernel_rfl) (by kernel_rfl) (fun _ _ _ h => h) (Or.inl ⟨by rfl, ?_⟩) (by assumption) ?_
            rotate_left
            · (intro w hSw; (try dsimp only at hSw); go_simp); all_goals (with_reducible rfl)
            simp only [List.getElem_toArray, List.getElem_cons_succ, List.getElem_cons_zero, Act.put, List.setIfInBounds_toArray, List.set_cons_zero, List.set_cons_succ]
            refine wpAnyH_ready (rs := [21]) (by kernel_rfl) (by simp) (AllReadyH.cons rfl (fun K hK => ?_) AllReadyH.nil)
            go_simp
            refine hK.out _ _ (HBX.out _ HE6.out.2.2.2) (fun hHeld => ?_)
            clear hK K
            refine wpAnyH_done (by kernel_rfl) ?_ _
            go_wp2_with fail
            go_ret
            exact .inr ⟨HR.out, rfl, HFIN.out _ _ _ HE6.out.1⟩
          ·
            have hcc := ((HI0.out.alloc (.cells #[.int .i64 n] 3)).alloc (.cells #[.string (Em.str op), .int .i64 tn, .slice a tl.length cap] 25)).c1
            go_simp
            refine hK.out _ _ (HBX.out _ ((HI0.out.alloc (.cells #[.int .i64 n] 3)).alloc (.cells #[.string (Em.str op), .int .i64 tn, .slice a tl.length cap] 25)).blk) (fun hHeld => ?_)
            clear hK K hcc
            refine wpAnyH_ready (rs := [8]) (by kernel_rfl) (by simp) (AllReadyH.cons rfl (fun K hK => ?_) AllReadyH.nil)
            refine step_sayV (w := w2) (by rfl) _ _ (by rfl) n _ (by rfl) (by rfl) ((HI0.out.alloc (.cells #[.int .i64 n] 3)).alloc (.cells #[.string (Em.str op), .int .i64 tn, .slice a tl.length cap] 25)) (by simp [go_sem]) hdl1 ?_
            intro v5 X5 hI5 hg5
            obtain ⟨xa, xc, hxe⟩ := hI5.own.form
            have hxf : v5 = .slice xa (D.length + 1) xc := by rw [hxe]; simp
            subst hxf
            have HI5 : Hid (SayI w2 X5 B Z sb (.slice va D.length vc) (.slice ta D.length tc) (.slice xa (D.length + 1) xc) (.slice ta D.length tc) (D.map (·.1) ++ [n]) (D.map (·.2)) N T (.agg #[.string (Em.str op), .int .i64 tn, .slice a tl.length cap])) := hI5
            have HT5 : Hid (X5.cell? ⟨w2.heap.size + 1, 0, none⟩ = some (.string (Em.str op)) ∧ X5.cell? ⟨w2.heap.size + 1, 1, none⟩ = some (.int .i64 tn) ∧ X5.cell? ⟨w2.heap.size + 1, 2, none⟩ = some (.slice a tl.length cap)) := ⟨hg5.cell (by simp [go_sem]) HVN1.out, hg5.cell (by simp [go_sem]) HVN1.out, hg5.cell (by simp [go_sem]) HVN1.out⟩
            refine hK.out _ _ (HBX.out _ hI5.blk) (fun hHeld => ?_)
            clear hK K hxe hI5 hg5
            refine wpAnyH_ready (rs := [15]) (by kernel_rfl) (by simp) (AllReadyH.cons rfl (fun K hK => ?_) AllReadyH.nil)
            refine step_sayT (w := w2) (by rfl) _ _ (by rfl) _ (by rfl) (by rfl) HI5.out HT5.out hdl2 ?_
            intro t6 X6 h6
            obtain ⟨ya, yc, hye, -, -⟩ := ownTys_form h6.2.2.1
            have hyf : t6 = .slice ya (D.length + 1) yc := by rw [hye]; simp
            subst hyf
            have s06 := h6.1.1
            have s16 := h6.1.2.1
            have f6 := h6.1.2.2.2
            have HE6 : Hid _ := say_done HI5.out.nv hsb' HI5.out.vn hi64 h6
            refine hK.out _ _ (HBX.out _ HE6.out.2.1) (fun hHeld => ?_)
            clear hK K hye h6
            refine wpAnyH_take (i := 16) (v := ?_) rfl (by kernel_rfl) (by kernel_rfl) (by kernel_rfl) (fun _ _ _ h => h) (Or.inl ⟨by rfl, ?_⟩) (by assumption) ?_
            rotate_left
            · (intro w hSw; (try dsimp only at hSw); go_simp); all_goals (with_reducible rfl)
            simp only [List.getElem_toArray, List.getElem_cons_succ, List.getElem_cons_zero, Act.put, List.setIfInBounds_toArray, List.set_cons_zero, List.set_cons_succ]
            refine wpAnyH_take (i := 17) (v := ?_) rfl (by kernel_rfl) (by kernel_rfl) (by kernel_rfl) (fun _ _ _ h => h) (Or.inl ⟨by rfl, ?_⟩) (by assumption) ?_
            rotate_left
            · (intro w hSw; (try dsimp only at hSw); go_simp); all_goals (with_reducible rfl)
            simp only [List.getElem_toArray, List.getElem_cons_succ, List.getElem_cons_zero, Act.put, List.setIfInBounds_toArray, List.set_cons_zero, List.set_cons_succ]
            refine wpAnyH_ready (rs := [18]) (by kernel_rfl) (by simp) (AllReadyH.cons rfl (fun K hK => ?_) AllReadyH.nil)
            go_simp
            refine hK.out _ _ (HBX.out _ HE6.out.2.2.1) (fun hHeld => ?_)
            clear hK K
            refine wpAnyH_take (i := 19) (v := ?_) rfl (by kernel_rfl) (by kernel_rfl) (by kernel_rfl) (fun _ _ _ h => h) (Or.inl ⟨by rfl, ?_⟩) (by assumption) ?_
            rotate_left
            · (intro w hSw; (try dsimp only at hSw); go_simp); all_goals (with_reducible rfl)
            simp only [List.getElem_toArray, List.getElem_cons_succ, List.getElem_cons_zero, Act.put, List.setIfInBounds_toArray, List.set_cons_zero, List.set_cons_succ]
            refine wpAnyH_take (i := 20) (v := ?_) rfl (by kernel_rfl) (by kernel_rfl) (by kernel_rfl) (fun _ _ _ h => h) (Or.inl ⟨by rfl, ?_⟩) (by assumption) ?_
            rotate_left
            · (intro w hSw; (try dsimp only at hSw); go_simp); all_goals (with_reducible rfl)
            simp only [List.getElem_toArray, List.getElem_cons_succ, List.getElem_cons_zero, Act.put, List.setIfInBounds_toArray, List.set_cons_zero, List.set_cons_succ]
            refine wpAnyH_ready (rs := [21]) (by kernel_rfl) (by simp) (AllReadyH.cons rfl (fun K hK => ?_) AllReadyH.nil)
            go_simp
            refine hK.out _ _ (HBX.out _ HE6.out.2.2.2) (fun hHeld => ?_)
            clear hK K
            refine wpAnyH_done (by kernel_rfl) ?_ _
            go_wp2_with fail
            go_ret
            exact .inr ⟨HR.out, rfl, HFIN.out _ _ _ HE6.out.1⟩
        ·
          have hcc := ((HI0.out.alloc (.cells #[.int .i64 n] 3)).alloc (.cells #[.string (Em.str op), .int .i64 tn, .slice a tl.length cap] 25)).c1
          go_simp
          refine hK.out _ _ (HBX.out _ ((HI0.out.alloc (.cells #[.int .i64 n] 3)).alloc (.cells #[.string (Em.str op), .int .i64 tn, .slice a tl.length cap] 25)).blk) (fun hHeld => ?_)
          clear hK K hcc
          refine wpAnyH_ready (rs := [5]) (by kernel_rfl) (by simp) (AllReadyH.cons rfl (fun K hK => ?_) AllReadyH.nil)
          have hcc := ((HI0.out.alloc (.cells #[.int .i64 n] 3)).alloc (.cells #[.string (Em.str op), .int .i64 tn, .slice a tl.length cap] 25)).c0
          go_simp
          refine hK.out _ _ (HBX.out _ ((HI0.out.alloc (.cells #[.int .i64 n] 3)).alloc (.cells #[.string (Em.str op), .int .i64 tn, .slice a tl.length cap] 25)).blk) (fun hHeld => ?_)
          clear hK K hcc
          refine wpAnyH_ready (rs := [8]) (by kernel_rfl) (by simp) (AllReadyH.cons rfl (fun K hK => ?_) AllReadyH.nil)
          refine step_sayV (w := w2) (by rfl) _ _ (by rfl) n _ (by rfl) (by rfl) ((HI0.out.alloc (.cells #[.int .i64 n] 3)).alloc (.cells #[.string (Em.str op), .int .i64 tn, .slice a tl.length cap] 25)) (by simp [go_sem]) hdl1 ?_
          intro v5 X5 hI5 hg5
          obtain ⟨xa, xc, hxe⟩ := hI5.own.form
          have hxf : v5 = .slice xa (D.length + 1) xc := by rw [hxe]; simp
          subst hxf
          have HI5 : Hid (SayI w2 X5 B Z sb (.slice va D.length vc) (.slice ta D.length tc) (.slice xa (D.length + 1) xc) (.slice ta D.length tc) (D.map (·.1) ++ [n]) (D.map (·.2)) N T (.agg #[.string (Em.str op), .int .i64 tn, .slice a tl.length cap])) := hI5
          have HT5 : Hid (X5.cell? ⟨w2.heap.size + 1, 0, none⟩ = some (.string (Em.str op)) ∧ X5.cell? ⟨w2.heap.size + 1, 1, none⟩ = some (.int .i64 tn) ∧ X5.cell? ⟨w2.heap.size + 1, 2, none⟩ = some (.slice a tl.length cap)) := ⟨hg5.cell (by simp [go_sem]) HVN1.out, hg5.cell (by simp [go_sem]) HVN1.out, hg5.cell (by simp [go_sem]) HVN1.out⟩
          refine hK.out _ _ (HBX.out _ hI5.blk) (fun hHeld => ?_)
          clear hK K hxe hI5 hg5
          refine wpAnyH_ready (rs := [15]) (by kernel_rfl) (by simp) (AllReadyH.cons rfl (fun K hK => ?_) AllReadyH.nil)
          refine step_sayT (w := w2) (by rfl) _ _ (by rfl) _ (by rfl) (by rfl) HI5.out HT5.out hdl2 ?_
          intro t6 X6 h6
          obtain ⟨ya, yc, hye, -, -⟩ := ownTys_form h6.2.2.1
          have hyf : t6 = .slice ya (D.length + 1) yc := by rw [hye]; simp
          subst hyf
          have s06 := h6.1.1
          have s16 := h6.1.2.1
          have f6 := h6.1.2.2.2
          have HE6 : Hid _ := say_done HI5.out.nv hsb' HI5.out.vn hi64 h6
          refine hK.out _ _ (HBX.out _ HE6.out.2.1) (fun hHeld => ?_)
          clear hK K hye h6
          refine wpAnyH_take (i := 16) (v := ?_) rfl (by kernel_rfl) (by kernel_rfl) (by kernel_rfl) (fun _ _ _ h => h) (Or.inl ⟨by rfl, ?_⟩) (by assumption) ?_
          rotate_left
          · (intro w hSw; (try dsimp only at hSw); go_simp); all_goals (with_reducible rfl)
          simp only [List.getElem_toArray, List.getElem_cons_succ, List.getElem_cons_zero, Act.put, List.setIfInBounds_toArray, List.set_cons_zero, List.set_cons_succ]
          refine wpAnyH_take (i := 17) (v := ?_) rfl (by kernel_rfl) (by kernel_rfl) (by kernel_rfl) (fun _ _ _ h => h) (Or.inl ⟨by rfl, ?_⟩) (by assumption) ?_
          rotate_left
          · (intro w hSw; (try dsimp only at hSw); go_simp); all_goals (with_reducible rfl)
          simp only [List.getElem_toArray, List.getElem_cons_succ, List.getElem_cons_zero, Act.put, List.setIfInBounds_toArray, List.set_cons_zero, List.set_cons_succ]
          refine wpAnyH_ready (rs := [18]) (by kernel_rfl) (by simp) (AllReadyH.cons rfl (fun K hK => ?_) AllReadyH.nil)
          go_simp
          refine hK.out _ _ (HBX.out _ HE6.out.2.2.1) (fun hHeld => ?_)
          clear hK K
          refine wpAnyH_take (i := 19) (v := ?_) rfl (by kernel_rfl) (by kernel_rfl) (by kernel_rfl) (fun _ _ _ h => h) (Or.inl ⟨by rfl, ?_⟩) (by assumption) ?_
          rotate_left
          · (intro w hSw; (try dsimp only at hSw); go_simp); all_goals (with_reducible rfl)
          simp only [List.getElem_toArray, List.getElem_cons_succ, List.getElem_cons_zero, Act.put, List.setIfInBounds_toArray, List.set_cons_zero, List.set_cons_succ]
          refine wpAnyH_take (i := 20) (v := ?_) rfl (by kernel_rfl) (by kernel_rfl) (by kernel_rfl) (fun _ _ _ h => h) (Or.inl ⟨by rfl, ?_⟩) (by assumption) ?_
          rotate_left
          · (intro w hSw; (try dsimp only at hSw); go_simp); all_goals (with_reducible rfl)
          simp only [List.getElem_toArray, List.getElem_cons_succ, List.getElem_cons_zero, Act.put, List.setIfInBounds_toArray, List.set_cons_zero, List.set_cons_succ]
          refine wpAnyH_ready (rs := [21]) (by kernel_rfl) (by simp) (AllReadyH.cons rfl (fun K hK => ?_) AllReadyH.nil)
          go_simp
          refine hK.out _ _ (HBX.out _ HE6.out.2.2.2) (fun hHeld => ?_)
          clear hK K
          refine wpAnyH_done (by kernel_rfl) ?_ _
          go_wp2_with fail
          go_ret
          exact .inr ⟨HR.out, rfl, HFIN.out _ _ _ HE6.out.1⟩
    ·
      have hcc := HI0.out.c1
      go_simp
      refine hK.out _ _ (HBX.out _ HI0.out.blk) (fun hHeld => ?_)
      clear hK K hcc
      refine wpAnyH_ready (rs := [5, 7, 14]) (by kernel_rfl) (by simp) (AllReadyH.cons rfl (fun K hK => ?_) (AllReadyH.cons rfl (fun K hK => ?_) (AllReadyH.cons rfl (fun K hK => ?_) AllReadyH.nil)))
      ·
        have hcc := HI0.out.c0
        go_simp
        refine hK.out _ _ (HBX.out _ HI0.out.blk) (fun hHeld => ?_)
        clear hK K hcc
        refine wpAnyH_ready (rs := [7, 14]) (by kernel_rfl) (by simp) (AllReadyH.cons rfl (fun K hK => ?_) (AllReadyH.cons rfl (fun K hK => ?_) AllReadyH.nil))
        ·
          go_simp
          refine hK.out _ _ (HBX.out _ (HI0.out.alloc (.cells #[.int .i64 n] 3)).blk) (fun hHeld => ?_)
          clear hK K
          refine wpAnyH_ready (rs := [8, 14]) (by kernel_rfl) (by simp) (AllReadyH.cons rfl (fun K hK => ?_) (AllReadyH.cons rfl (fun K hK => ?_) AllReadyH.nil))
          ·
            refine step_sayV (w := w2) (by rfl) _ _ (by rfl) n _ (by rfl) (by rfl) (HI0.out.alloc (.cells #[.int .i64 n] 3)) (by simp [go_sem]) hdl1 ?_
            intro v5 X5 hI5 hg5
            obtain ⟨xa, xc, hxe⟩ := hI5.own.form
            have hxf : v5 = .slice xa (D.length + 1) xc := by rw [hxe]; simp
            subst hxf
            have HI5 : Hid (SayI w2 X5 B Z sb (.slice va D.length vc) (.slice ta D.length tc) (.slice xa (D.length + 1) xc) (.slice ta D.length tc) (D.map (·.1) ++ [n]) (D.map (·.2)) N T (.agg #[.string (Em.str op), .int .i64 tn, .slice a tl.length cap])) := hI5
            refine hK.out _ _ (HBX.out _ hI5.blk) (fun hHeld => ?_)
            clear hK K hxe hI5 hg5
            refine wpAnyH_ready (rs := [14]) (by kernel_rfl) (by simp) (AllReadyH.cons rfl (fun K hK => ?_) AllReadyH.nil)
            go_simp
            refine hK.out _ _ (HBX.out _ (HI5.out.alloc (.cells #[.string (Em.str op), .int .i64 tn, .slice a tl.length cap] 25)).blk) (fun hHeld => ?_)
            clear hK K
            refine wpAnyH_ready (rs := [15]) (by kernel_rfl) (by simp) (AllReadyH.cons rfl (fun K hK => ?_) AllReadyH.nil)
            refine step_sayT (w := w2) (by rfl) _ _ (by rfl) _ (by rfl) (by rfl) (HI5.out.alloc (.cells #[.string (Em.str op), .int .i64 tn, .slice a tl.length cap] 25)) ⟨by simp [go_sem], by simp [go_sem], by simp [go_sem]⟩ hdl2 ?_
            intro t6 X6 h6
            obtain ⟨ya, yc, hye, -, -⟩ := ownTys_form h6.2.2.1
            have hyf : t6 = .slice ya (D.length + 1) yc := by rw [hye]; simp
            subst hyf
            have s06 := h6.1.1
            have s16 := h6.1.2.1
            have f6 := h6.1.2.2.2
            have HE6 : Hid _ := say_done HI5.out.nv hsb' HI5.out.vn hi64 h6
            refine hK.out _ _ (HBX.out _ HE6.out.2.1) (fun hHeld => ?_)
            clear hK K hye h6
            refine wpAnyH_take (i := 16) (v := ?_) rfl (by kernel_rfl) (by kernel_rfl) (by kernel_rfl) (fun _ _ _ h => h) (Or.inl ⟨by rfl, ?_⟩) (by assumption) ?_
            rotate_left
            · (intro w hSw; (try dsimp only at hSw); go_simp); all_goals (with_reducible rfl)
            simp only [List.getElem_toArray, List.getElem_cons_succ, List.getElem_cons_zero, Act.put, List.setIfInBounds_toArray, List.set_cons_zero, List.set_cons_succ]
            refine wpAnyH_take (i := 17) (v := ?_) rfl (by kernel_rfl) (by kernel_rfl) (by kernel_rfl) (fun _ _ _ h => h) (Or.inl ⟨by rfl, ?_⟩) (by assumption) ?_
            rotate_left
            · (intro w hSw; (try dsimp only at hSw); go_simp); all_goals (with_reducible rfl)
            simp only [List.getElem_toArray, List.getElem_cons_succ, List.getElem_cons_zero, Act.put, List.setIfInBounds_toArray, List.set_cons_zero, List.set_cons_succ]
            refine wpAnyH_ready (rs := [18]) (by kernel_rfl) (by simp) (AllReadyH.cons rfl (fun K hK => ?_) AllReadyH.nil)
            go_simp
            refine hK.out _ _ (HBX.out _ HE6.out.2.2.1) (fun hHeld => ?_)
            clear hK K
            refine wpAnyH_take (i := 19) (v := ?_) rfl (by kernel_rfl) (by kernel_rfl) (by kernel_rfl) (fun _ _ _ h => h) (Or.inl ⟨by rfl, ?_⟩) (by assumption) ?_
            rotate_left
            · (intro w hSw; (try dsimp only at hSw); go_simp); all_goals (with_reducible rfl)
            simp only [List.getElem_toArray, List.getElem_cons_succ, List.getElem_cons_zero, Act.put, List.setIfInBounds_toArray, List.set_cons_zero, List.set_cons_succ]
            refine wpAnyH_take (i := 20) (v := ?_) rfl (by kernel_rfl) (by kernel_rfl) (by kernel_rfl) (fun _ _ _ h => h) (Or.inl ⟨by rfl, ?_⟩) (by assumption) ?_
            rotate_left
            · (intro w hSw; (try dsimp only at hSw); go_simp); all_goals (with_reducible rfl)
            simp only [List.getElem_toArray, List.getElem_cons_succ, List.getElem_cons_zero, Act.put, List.setIfInBounds_toArray, List.set_cons_zero, List.set_cons_succ]
            refine wpAnyH_ready (rs := [21]) (by kernel_rfl) (by simp) (AllReadyH.cons rfl (fun K hK => ?_) AllReadyH.nil)
            go_simp
            refine hK.out _ _ (HBX.out _ HE6.out.2.2.2) (fun hHeld => ?_)
            clear hK K
            refine wpAnyH_done (by kernel_rfl) ?_ _
            go_wp2_with fail
            go_ret
            exact .inr ⟨HR.out, rfl, HFIN.out _ _ _ HE6.out.1⟩
          ·
            go_simp
            refine hK.out _ _ (HBX.out _ ((HI0.out.alloc (.cells #[.int .i64 n] 3)).alloc (.cells #[.string (Em.str op), .int .i64 tn, .slice a tl.length cap] 25)).blk) (fun hHeld => ?_)
            clear hK K
            refine wpAnyH_ready (rs := [8]) (by kernel_rfl) (by simp) (AllReadyH.cons rfl (fun K hK => ?_) AllReadyH.nil)
            refine step_sayV (w := w2) (by rfl) _ _ (by rfl) n _ (by rfl) (by rfl) ((HI0.out.alloc (.cells #[.int .i64 n] 3)).alloc (.cells #[.string (Em.str op), .int .i64 tn, .slice a tl.length cap] 25)) (by simp [go_sem]) hdl1 ?_
            intro v5 X5 hI5 hg5
            obtain ⟨xa, xc, hxe⟩ := hI5.own.form
            have hxf : v5 = .slice xa (D.length + 1) xc := by rw [hxe]; simp
            subst hxf
            have HI5 : Hid (SayI w2 X5 B Z sb (.slice va D.length vc) (.slice ta D.length tc) (.slice xa (D.length + 1) xc) (.slice ta D.length tc) (D.map (·.1) ++ [n]) (D.map (·.2)) N T (.agg #[.string (Em.str op), .int .i64 tn, .slice a tl.length cap])) := hI5
            have HT5 : Hid (X5.cell? ⟨w2.heap.size + 1, 0, none⟩ = some (.string (Em.str op)) ∧ X5.cell? ⟨w2.heap.size + 1, 1, none⟩ = some (.int .i64 tn) ∧ X5.cell? ⟨w2.heap.size + 1, 2, none⟩ = some (.slice a tl.length cap)) := ⟨hg5.cell (by simp [go_sem]) HVN1.out, hg5.cell (by simp [go_sem]) HVN1.out, hg5.cell (by simp [go_sem]) HVN1.out⟩
            refine hK.out _ _ (HBX.out _ hI5.blk) (fun hHeld => ?_)
            clear hK K hxe hI5 hg5
            refine wpAnyH_ready (rs := [15]) (by kernel_rfl) (by simp) (AllReadyH.cons rfl (fun K hK => ?_) AllReadyH.nil)
            refine step_sayT (w := w2) (by rfl) _ _ (by rfl) _ (by rfl) (by rfl) HI5.out HT5.out hdl2 ?_
            intro t6 X6 h6
            obtain ⟨ya, yc, hye, -, -⟩ := ownTys_form h6.2.2.1
            have hyf : t6 = .slice ya (D.length + 1) yc := by rw [hye]; simp
            subst hyf
            have s06 := h6.1.1
            have s16 := h6.1.2.1
            have f6 := h6.1.2.2.2
            have HE6 : Hid _ := say_done HI5.out.nv hsb' HI5.out.vn hi64 h6
            refine hK.out _ _ (HBX.out _ HE6.out.2.1) (fun hHeld => ?_)
            clear hK K hye h6
            refine wpAnyH_take (i := 16) (v := ?_) rfl (by kernel_rfl) (by kernel_rfl) (by kernel_rfl) (fun _ _ _ h => h) (Or.inl ⟨by rfl, ?_⟩) (by assumption) ?_
            rotate_left
            · (intro w hSw; (try dsimp only at hSw); go_simp); all_goals (with_reducible rfl)
            simp only [List.getElem_toArray, List.getElem_cons_succ, List.getElem_cons_zero, Act.put, List.setIfInBounds_toArray, List.set_cons_zero, List.set_cons_succ]
            refine wpAnyH_take (i := 17) (v := ?_) rfl (by kernel_rfl) (by kernel_rfl) (by kernel_rfl) (fun _ _ _ h => h) (Or.inl ⟨by rfl, ?_⟩) (by assumption) ?_
            rotate_left
            · (intro w hSw; (try dsimp only at hSw); go_simp); all_goals (with_reducible rfl)
            simp only [List.getElem_toArray, List.getElem_cons_succ, List.getElem_cons_zero, Act.put, List.setIfInBounds_toArray, List.set_cons_zero, List.set_cons_succ]
            refine wpAnyH_ready (rs := [18]) (by kernel_rfl) (by simp) (AllReadyH.cons rfl (fun K hK => ?_) AllReadyH.nil)
            go_simp
            refine hK.out _ _ (HBX.out _ HE6.out.2.2.1) (fun hHeld => ?_)
            clear hK K
            refine wpAnyH_take (i := 19) (v := ?_) rfl (by kernel_rfl) (by kernel_rfl) (by kernel_rfl) (fun _ _ _ h => h) (Or.inl ⟨by rfl, ?_⟩) (by assumption) ?_
            rotate_left
            · (intro w hSw; (try dsimp only at hSw); go_simp); all_goals (with_reducible rfl)
            simp only [List.getElem_toArray, List.getElem_cons_succ, List.getElem_cons_zero, Act.put, List.setIfInBounds_toArray, List.set_cons_zero, List.set_cons_succ]
            refine wpAnyH_take (i := 20) (v := ?_) rfl (by kernel_rfl) (by kernel_rfl) (by kernel_rfl) (fun _ _ _ h => h) (Or.inl ⟨by rfl, ?_⟩) (by assumption) ?_
            rotate_left
            · (intro w hSw; (try dsimp only at hSw); go_simp); all_goals (with_reducible rfl)
            simp only [List.getElem_toArray, List.getElem_cons_succ, List.getElem_cons_zero, Act.put, List.setIfInBounds_toArray, List.set_cons_zero, List.set_cons_succ]
            refine wpAnyH_ready (rs := [21]) (by kernel_rfl) (by simp) (AllReadyH.cons rfl (fun K hK => ?_) AllReadyH.nil)
            go_simp
            refine hK.out _ _ (HBX.out _ HE6.out.2.2.2) (fun hHeld => ?_)
            clear hK K
            refine wpAnyH_done (by kernel_rfl) ?_ _
            go_wp2_with fail
            go_ret
            exact .inr ⟨HR.out, rfl, HFIN.out _ _ _ HE6.out.1⟩
        ·
          go_simp
          refine hK.out _ _ (HBX.out _ (HI0.out.alloc (.cells #[.string (Em.str op), .int .i64 tn, .slice a tl.length cap] 25)).blk) (fun hHeld => ?_)
          clear hK K
          refine wpAnyH_ready (rs := [7]) (by kernel_rfl) (by simp) (AllReadyH.cons rfl (fun K hK => ?_) AllReadyH.nil)
          go_simp
          refine hK.out _ _ (HBX.out _ ((HI0.out.alloc (.cells #[.string (Em.str op), .int .i64 tn, .slice a tl.length cap] 25)).alloc (.cells #[.int .i64 n] 3)).blk) (fun hHeld => ?_)
          clear hK K
          refine wpAnyH_ready (rs := [8]) (by kernel_rfl) (by simp) (AllReadyH.cons rfl (fun K hK => ?_) AllReadyH.nil)
          refine step_sayV (w := w2) (by rfl) _ _ (by rfl) n _ (by rfl) (by rfl) ((HI0.out.alloc (.cells #[.string (Em.str op), .int .i64 tn, .slice a tl.length cap] 25)).alloc (.cells #[.int .i64 n] 3)) (by simp [go_sem]) hdl1 ?_
          intro v5 X5 hI5 hg5
          obtain ⟨xa, xc, hxe⟩ := hI5.own.form
          have hxf : v5 = .slice xa (D.length + 1) xc := by rw [hxe]; simp
          subst hxf
          have HI5 : Hid (SayI w2 X5 B Z sb (.slice va D.length vc) (.slice ta D.length tc) (.slice xa (D.length + 1) xc) (.slice ta D.length tc) (D.map (·.1) ++ [n]) (D.map (·.2)) N T (.agg #[.string (Em.str op), .int .i64 tn, .slice a tl.length cap])) := hI5
          have HT5 : Hid (X5.cell? ⟨w2.heap.size, 0, none⟩ = some (.string (Em.str op)) ∧ X5.cell? ⟨w2.heap.size, 1, none⟩ = some (.int .i64 tn) ∧ X5.cell? ⟨w2.heap.size, 2, none⟩ = some (.slice a tl.length cap)) := ⟨hg5.cell (by simp [go_sem]) HVN0.out, hg5.cell (by simp [go_sem]) HVN0.out, hg5.cell (by simp [go_sem]) HVN0.out⟩
          refine hK.out _ _ (HBX.out _ hI5.blk) (fun hHeld => ?_)
          clear hK K hxe hI5 hg5
          refine wpAnyH_ready (rs := [15]) (by kernel_rfl) (by simp) (AllReadyH.cons rfl (fun K hK => ?_) AllReadyH.nil)
          refine step_sayT (w := w2) (by rfl) _ _ (by rfl) _ (by rfl) (by rfl) HI5.out HT5.out hdl2 ?_
          intro t6 X6 h6
          obtain ⟨ya, yc, hye, -, -⟩ := ownTys_form h6.2.2.1
          have hyf : t6 = .slice ya (D.length + 1) yc := by rw [hye]; simp
          subst hyf
          have s06 := h6.1.1
          have s16 := h6.1.2.1
          have f6 := h6.1.2.2.2
          have HE6 : Hid _ := say_done HI5.out.nv hsb' HI5.out.vn hi64 h6
          refine hK.out _ _ (HBX.out _ HE6.out.2.1) (fun hHeld => ?_)
          clear hK K hye h6
          refine wpAnyH_take (i := 16) (v := ?_) rfl (by kernel_rfl) (by kernel_rfl) (by kernel_rfl) (fun _ _ _ h => h) (Or.inl ⟨by rfl, ?_⟩) (by assumption) ?_
          rotate_left
          · (intro w hSw; (try dsimp only at hSw); go_simp); all_goals (with_reducible rfl)
          simp only [List.getElem_toArray, List.getElem_cons_succ, List.getElem_cons_zero, Act.put, List.setIfInBounds_toArray, List.set_cons_zero, List.set_cons_succ]
          refine wpAnyH_take (i := 17) (v := ?_) rfl (by kernel_rfl) (by kernel_rfl) (by kernel_rfl) (fun _ _ _ h => h) (Or.inl ⟨by rfl, ?_⟩) (by assumption) ?_
          rotate_left
          · (intro w hSw; (try dsimp only at hSw); go_simp); all_goals (with_reducible rfl)
          simp only [List.getElem_toArray, List.getElem_cons_succ, List.getElem_cons_zero, Act.put, List.setIfInBounds_toArray, List.set_cons_zero, List.set_cons_succ]
          refine wpAnyH_ready (rs := [18]) (by kernel_rfl) (by simp) (AllReadyH.cons rfl (fun K hK => ?_) AllReadyH.nil)
          go_simp
          refine hK.out _ _ (HBX.out _ HE6.out.2.2.1) (fun hHeld => ?_)
          clear hK K
          refine wpAnyH_take (i := 19) (v := ?_) rfl (by kernel_rfl) (by kernel_rfl) (by kernel_rfl) (fun _ _ _ h => h) (Or.inl ⟨by rfl, ?_⟩) (by assumption) ?_
          rotate_left
          · (intro w hSw; (try dsimp only at hSw); go_simp); all_goals (with_reducible rfl)
          simp only [List.getElem_toArray, List.getElem_cons_succ, List.getElem_cons_zero, Act.put, List.setIfInBounds_toArray, List.set_cons_zero, List.set_cons_succ]
          refine wpAnyH_take (i := 20) (v := ?_) rfl (by kernel_rfl) (by kernel_rfl) (by kernel_rfl) (fun _ _ _ h => h) (Or.inl ⟨by rfl, ?_⟩) (by assumption) ?_
          rotate_left
          · (intro w hSw; (try dsimp only at hSw); go_simp); all_goals (with_reducible rfl)
          simp only [List.getElem_toArray, List.getElem_cons_succ, List.getElem_cons_zero, Act.put, List.setIfInBounds_toArray, List.set_cons_zero, List.set_cons_succ]
          refine wpAnyH_ready (rs := [21]) (by kernel_rfl) (by simp) (AllReadyH.cons rfl (fun K hK => ?_) AllReadyH.nil)
          go_simp
          refine hK.out _ _ (HBX.out _ HE6.out.2.2.2) (fun hHeld => ?_)
          clear hK K
          refine wpAnyH_done (by kernel_rfl) ?_ _
          go_wp2_with fail
          go_ret
          exact .inr ⟨HR.out, rfl, HFIN.out _ _ _ HE6.out.1⟩
      ·
        go_simp
        refine hK.out _ _ (HBX.out _ (HI0.out.alloc (.cells #[.int .i64 n] 3)).blk) (fun hHeld => ?_)
        clear hK K
        refine wpAnyH_ready (rs := [5, 14]) (by kernel_rfl) (by simp) (AllReadyH.cons rfl (fun K hK => ?_) (AllReadyH.cons rfl (fun K hK => ?_) AllReadyH.nil))
        ·
          have hcc := (HI0.out.alloc (.cells #[.int .i64 n] 3)).c0
          go_simp
          refine hK.out _ _ (HBX.out _ (HI0.out.alloc (.cells #[.int .i64 n] 3)).blk) (fun hHeld => ?_)
          clear hK K hcc
          refine wpAnyH_ready (rs := [8, 14]) (by kernel_rfl) (by simp) (AllReadyH.cons rfl (fun K hK => ?_) (AllReadyH.cons rfl (fun K hK => ?_) AllReadyH.nil))
          ·
            refine step_sayV (w := w2) (by rfl) _ _ (by rfl) n _ (by rfl) (by rfl) (HI0.out.alloc (.cells #[.int .i64 n] 3)) (by simp [go_sem]) hdl1 ?_
            intro v5 X5 hI5 hg5
            obtain ⟨xa, xc, hxe⟩ := hI5.own.form
            have hxf : v5 = .slice xa (D.length + 1) xc := by rw [hxe]; simp
            subst hxf
            have HI5 : Hid (SayI w2 X5 B Z sb (.slice va D.length vc) (.slice ta D.length tc) (.slice xa (D.length + 1) xc) (.slice ta D.length tc) (D.map (·.1) ++ [n]) (D.map (·.2)) N T (.agg #[.string (Em.str op), .int .i64 tn, .slice a tl.length cap])) := hI5
            refine hK.out _ _ (HBX.out _ hI5.blk) (fun hHeld => ?_)
            clear hK K hxe hI5 hg5
            refine wpAnyH_ready (rs := [14]) (by kernel_rfl) (by simp) (AllReadyH.cons rfl (fun K hK => ?_) AllReadyH.nil)
            go_simp
            refine hK.out _ _ (HBX.out _ (HI5.out.alloc (.cells #[.string (Em.str op), .int .i64 tn, .slice a tl.length cap] 25)).blk) (fun hHeld => ?_)
            clear hK K
            refine wpAnyH_ready (rs := [15]) (by kernel_rfl) (by simp) (AllReadyH.cons rfl (fun K hK => ?_) AllReadyH.nil)
            refine step_sayT (w := w2) (by rfl) _ _ (by rfl) _ (by rfl) (by rfl) (HI5.out.alloc (.cells #[.string (Em.str op), .int .i64 tn, .slice a tl.length cap] 25)) ⟨by simp [go_sem], by simp [go_sem], by simp [go_sem]⟩ hdl2 ?_
            intro t6 X6 h6
            obtain ⟨ya, yc, hye, -, -⟩ := ownTys_form h6.2.2.1
            have hyf : t6 = .slice ya (D.length + 1) yc := by rw [hye]; simp
            subst hyf
            have s06 := h6.1.1
            have s16 := h6.1.2.1
            have f6 := h6.1.2.2.2
            have HE6 : Hid _ := say_done HI5.out.nv hsb' HI5.out.vn hi64 h6
            refine hK.out _ _ (HBX.out _ HE6.out.2.1) (fun hHeld => ?_)
            clear hK K hye h6
            refine wpAnyH_take (i := 16) (v := ?_) rfl (by kernel_rfl) (by kernel_rfl) (by kernel_rfl) (fun _ _ _ h => h) (Or.inl ⟨by rfl, ?_⟩) (by assumption) ?_
            rotate_left
            · (intro w hSw; (try dsimp only at hSw); go_simp); all_goals (with_reducible rfl)
            simp only [List.getElem_toArray, List.getElem_cons_succ, List.getElem_cons_zero, Act.put, List.setIfInBounds_toArray, List.set_cons_zero, List.set_cons_succ]
            refine wpAnyH_take (i := 17) (v := ?_) rfl (by kernel_rfl) (by kernel_rfl) (by kernel_rfl) (fun _ _ _ h => h) (Or.inl ⟨by rfl, ?_⟩) (by assumption) ?_
            rotate_left
            · (intro w hSw; (try dsimp only at hSw); go_simp); all_goals (with_reducible rfl)
            simp only [List.getElem_toArray, List.getElem_cons_succ, List.getElem_cons_zero, Act.put, List.setIfInBounds_toArray, List.set_cons_zero, List.set_cons_succ]
            refine wpAnyH_ready (rs := [18]) (by kernel_rfl) (by simp) (AllReadyH.cons rfl (fun K hK => ?_) AllReadyH.nil)
            go_simp
            refine hK.out _ _ (HBX.out _ HE6.out.2.2.1) (fun hHeld => ?_)
            clear hK K
            refine wpAnyH_take (i := 19) (v := ?_) rfl (by kernel_rfl) (by kernel_rfl) (by kernel_rfl) (fun _ _ _ h => h) (Or.inl ⟨by rfl, ?_⟩) (by assumption) ?_
            rotate_left
            · (intro w hSw; (try dsimp only at hSw); go_simp); all_goals (with_reducible rfl)
            simp only [List.getElem_toArray, List.getElem_cons_succ, List.getElem_cons_zero, Act.put, List.setIfInBounds_toArray, List.set_cons_zero, List.set_cons_succ]
            refine wpAnyH_take (i := 20) (v := ?_) rfl (by kernel_rfl) (by kernel_rfl) (by kernel_rfl) (fun _ _ _ h => h) (Or.inl ⟨by rfl, ?_⟩) (by assumption) ?_
            rotate_left
            · (intro w hSw; (try dsimp only at hSw); go_simp); all_goals (with_reducible rfl)
            simp only [List.getElem_toArray, List.getElem_cons_succ, List.getElem_cons_zero, Act.put, List.setIfInBounds_toArray, List.set_cons_zero, List.set_cons_succ]
            refine wpAnyH_ready (rs := [21]) (by kernel_rfl) (by simp) (AllReadyH.cons rfl (fun K hK => ?_) AllReadyH.nil)
            go_simp
            refine hK.out _ _ (HBX.out _ HE6.out.2.2.2) (fun hHeld => ?_)
            clear hK K
            refine wpAnyH_done (by kernel_rfl) ?_ _
            go_wp2_with fail
            go_ret
            exact .inr ⟨HR.out, rfl, HFIN.out _ _ _ HE6.out.1⟩
          ·
            go_simp
            refine hK.out _ _ (HBX.out _ ((HI0.out.alloc (.cells #[.int .i64 n] 3)).alloc (.cells #[.string (Em.str op), .int .i64 tn, .slice a tl.length cap] 25)).blk) (fun hHeld => ?_)
            clear hK K
            refine wpAnyH_ready (rs := [8]) (by kernel_rfl) (by simp) (AllReadyH.cons rfl (fun K hK => ?_) AllReadyH.nil)
            refine step_sayV (w := w2) (by rfl) _ _ (by rfl) n _ (by rfl) (by rfl) ((HI0.out.alloc (.cells #[.int .i64 n] 3)).alloc (.cells #[.string (Em.str op), .int .i64 tn, .slice a tl.length cap] 25)) (by simp [go_sem]) hdl1 ?_
            intro v5 X5 hI5 hg5
            obtain ⟨xa, xc, hxe⟩ := hI5.own.form
            have hxf : v5 = .slice xa (D.length + 1) xc := by rw [hxe]; simp
            subst hxf
            have HI5 : Hid (SayI w2 X5 B Z sb (.slice va D.length vc) (.slice ta D.length tc) (.slice xa (D.length + 1) xc) (.slice ta D.length tc) (D.map (·.1) ++ [n]) (D.map (·.2)) N T (.agg #[.string (Em.str op), .int .i64 tn, .slice a tl.length cap])) := hI5
            have HT5 : Hid (X5.cell? ⟨w2.heap.size + 1, 0, none⟩ = some (.string (Em.str op)) ∧ X5.cell? ⟨w2.heap.size + 1, 1, none⟩ = some (.int .i64 tn) ∧ X5.cell? ⟨w2.heap.size + 1, 2, none⟩ = some (.slice a tl.length cap)) := ⟨hg5.cell (by simp [go_sem]) HVN1.out, hg5.cell (by simp [go_sem]) HVN1.out, hg5.cell (by simp [go_sem]) HVN1.out⟩
            refine hK.out _ _ (HBX.out _ hI5.blk) (fun hHeld => ?_)
            clear hK K hxe hI5 hg5
            refine wpAnyH_ready (rs := [15]) (by kernel_rfl) (by simp) (AllReadyH.cons rfl (fun K hK => ?_) AllReadyH.nil)
            refine step_sayT (w := w2) (by rfl) _ _ (by rfl) _ (by rfl) (by rfl) HI5.out HT5.out hdl2 ?_
            intro t6 X6 h6
            obtain ⟨ya, yc, hye, -, -⟩ := ownTys_form h6.2.2.1
            have hyf : t6 = .slice ya (D.length + 1) yc := by rw [hye]; simp
            subst hyf
            have s06 := h6.1.1
            have s16 := h6.1.2.1
            have f6 := h6.1.2.2.2
            have HE6 : Hid _ := say_done HI5.out.nv hsb' HI5.out.vn hi64 h6
            refine hK.out _ _ (HBX.out _ HE6.out.2.1) (fun hHeld => ?_)
            clear hK K hye h6
            refine wpAnyH_take (i := 16) (v := ?_) rfl (by kernel_rfl) (by kernel_rfl) (by kernel_rfl) (fun _ _ _ h => h) (Or.inl ⟨by rfl, ?_⟩) (by assumption) ?_
            rotate_left
            · (intro w hSw; (try dsimp only at hSw); go_simp); all_goals (with_reducible rfl)
            simp only [List.getElem_toArray, List.getElem_cons_succ, List.getElem_cons_zero, Act.put, List.setIfInBounds_toArray, List.set_cons_zero, List.set_cons_succ]
            refine wpAnyH_take (i := 17) (v := ?_) rfl (by kernel_rfl) (by kernel_rfl) (by kernel_rfl) (fun _ _ _ h => h) (Or.inl ⟨by rfl, ?_⟩) (by assumption) ?_
            rotate_left
            · (intro w hSw; (try dsimp only at hSw); go_simp); all_goals (with_reducible rfl)
            simp only [List.getElem_toArray, List.getElem_cons_succ, List.getElem_cons_zero, Act.put, List.setIfInBounds_toArray, List.set_cons_zero, List.set_cons_succ]
            refine wpAnyH_ready (rs := [18]) (by kernel_rfl) (by simp) (AllReadyH.cons rfl (fun K hK => ?_) AllReadyH.nil)
            go_simp
            refine hK.out _ _ (HBX.out _ HE6.out.2.2.1) (fun hHeld => ?_)
            clear hK K
            refine wpAnyH_take (i := 19) (v := ?_) rfl (by kernel_rfl) (by kernel_rfl) (by kernel_rfl) (fun _ _ _ h => h) (Or.inl ⟨by rfl, ?_⟩) (by assumption) ?_
            rotate_left
            · (intro w hSw; (try dsimp only at hSw); go_simp); all_goals (with_reducible rfl)
            simp only [List.getElem_toArray, List.getElem_cons_succ, List.getElem_cons_zero, Act.put, List.setIfInBounds_toArray, List.set_cons_zero, List.set_cons_succ]
            refine wpAnyH_take (i := 20) (v := ?_) rfl (by kernel_rfl) (by kernel_rfl) (by kernel_rfl) (fun _ _ _ h => h) (Or.inl ⟨by rfl, ?_⟩) (by assumption) ?_
            rotate_left
            · (intro w hSw; (try dsimp only at hSw); go_simp); all_goals (with_reducible rfl)
            simp only [List.getElem_toArray, List.getElem_cons_succ, List.getElem_cons_zero, Act.put, List.setIfInBounds_toArray, List.set_cons_zero, List.set_cons_succ]
            refine wpAnyH_ready (rs := [21]) (by kernel_rfl) (by simp) (AllReadyH.cons rfl (fun K hK => ?_) AllReadyH.nil)
            go_simp
            refine hK.out _ _ (HBX.out _ HE6.out.2.2.2) (fun hHeld => ?_)
            clear hK K
            refine wpAnyH_done (by kernel_rfl) ?_ _
            go_wp2_with fail
            go_ret
            exact .inr ⟨HR.out, rfl, HFIN.out _ _ _ HE6.out.1⟩
        ·
          go_simp
          refine hK.out _ _ (HBX.out _ ((HI0.out.alloc (.cells #[.int .i64 n] 3)).alloc (.cells #[.string (Em.str op), .int .i64 tn, .slice a tl.length cap] 25)).blk) (fun hHeld => ?_)
          clear hK K
          refine wpAnyH_ready (rs := [5]) (by kernel_rfl) (by simp) (AllReadyH.cons rfl (fun K hK => ?_) AllReadyH.nil)
          have hcc := ((HI0.out.alloc (.cells #[.int .i64 n] 3)).alloc (.cells #[.string (Em.str op), .int .i64 tn, .slice a tl.length cap] 25)).c0
          go_simp
          refine hK.out _ _ (HBX.out _ ((HI0.out.alloc (.cells #[.int .i64 n] 3)).alloc (.cells #[.string (Em.str op), .int .i64 tn, .slice a tl.length cap] 25)).blk) (fun hHeld => ?_)
          clear hK K hcc
          refine wpAnyH_ready (rs := [8]) (by kernel_rfl) (by simp) (AllReadyH.cons rfl (fun K hK => ?_) AllReadyH.nil)
          refine step_sayV (w := w2) (by rfl) _ _ (by rfl) n _ (by rfl) (by rfl) ((HI0.out.alloc (.cells #[.int .i64 n] 3)).alloc (.cells #[.string (Em.str op), .int .i64 tn, .slice a tl.length cap] 25)) (by simp [go_sem]) hdl1 ?_
          intro v5 X5 hI5 hg5
          obtain ⟨xa, xc, hxe⟩ := hI5.own.form
          have hxf : v5 = .slice xa (D.length + 1) xc := by rw [hxe]; simp
          subst hxf
          have HI5 : Hid (SayI w2 X5 B Z sb (.slice va D.length vc) (.slice ta D.length tc) (.slice xa (D.length + 1) xc) (.slice ta D.length tc) (D.map (·.1) ++ [n]) (D.map (·.2)) N T (.agg #[.string (Em.str op), .int .i64 tn, .slice a tl.length cap])) := hI5
          have HT5 : Hid (X5.cell? ⟨w2.heap.size + 1, 0, none⟩ = some (.string (Em.str op)) ∧ X5.cell? ⟨w2.heap.size + 1, 1, none⟩ = some (.int .i64 tn) ∧ X5.cell? ⟨w2.heap.size + 1, 2, none⟩ = some (.slice a tl.length cap)) := ⟨hg5.cell (by simp [go_sem]) HVN1.out, hg5.cell (by simp [go_sem]) HVN1.out, hg5.cell (by simp [go_sem]) HVN1.out⟩
          refine hK.out _ _ (HBX.out _ hI5.blk) (fun hHeld => ?_)
          clear hK K hxe hI5 hg5
          refine wpAnyH_ready (rs := [15]) (by kernel_rfl) (by simp) (AllReadyH.cons rfl (fun K hK => ?_) AllReadyH.nil)
          refine step_sayT (w := w2) (by rfl) _ _ (by rfl) _ (by rfl) (by rfl) HI5.out HT5.out hdl2 ?_
          intro t6 X6 h6
          obtain ⟨ya, yc, hye, -, -⟩ := ownTys_form h6.2.2.1
          have hyf : t6 = .slice ya (D.length + 1) yc := by rw [hye]; simp
          subst hyf
          have s06 := h6.1.1
          have s16 := h6.1.2.1
          have f6 := h6.1.2.2.2
          have HE6 : Hid _ := say_done HI5.out.nv hsb' HI5.out.vn hi64 h6
          refine hK.out _ _ (HBX.out _ HE6.out.2.1) (fun hHeld => ?_)
          clear hK K hye h6
          refine wpAnyH_take (i := 16) (v := ?_) rfl (by kernel_rfl) (by kernel_rfl) (by kernel_rfl) (fun _ _ _ h => h) (Or.inl ⟨by rfl, ?_⟩) (by assumption) ?_
          rotate_left
          · (intro w hSw; (try dsimp only at hSw); go_simp); all_goals (with_reducible rfl)
          simp only [List.getElem_toArray, List.getElem_cons_succ, List.getElem_cons_zero, Act.put, List.setIfInBounds_toArray, List.set_cons_zero, List.set_cons_succ]
          refine wpAnyH_take (i := 17) (v := ?_) rfl (by kernel_rfl) (by kernel_rfl) (by kernel_rfl) (fun _ _ _ h => h) (Or.inl ⟨by rfl, ?_⟩) (by assumption) ?_
          rotate_left
          · (intro w hSw; (try dsimp only at hSw); go_simp); all_goals (with_reducible rfl)
          simp only [List.getElem_toArray, List.getElem_cons_succ, List.getElem_cons_zero, Act.put, List.setIfInBounds_toArray, List.set_cons_zero, List.set_cons_succ]
          refine wpAnyH_ready (rs := [18]) (by kernel_rfl) (by simp) (AllReadyH.cons rfl (fun K hK => ?_) AllReadyH.nil)
          go_simp
          refine hK.out _ _ (HBX.out _ HE6.out.2.2.1) (fun hHeld => ?_)
          clear hK K
          refine wpAnyH_take (i := 19) (v := ?_) rfl (by kernel_rfl) (by kernel_rfl) (by kernel_rfl) (fun _ _ _ h => h) (Or.inl ⟨by rfl, ?_⟩) (by assumption) ?_
          rotate_left
          · (intro w hSw; (try dsimp only at hSw); go_simp); all_goals (with_reducible rfl)
          simp only [List.getElem_toArray, List.getElem_cons_succ, List.getElem_cons_zero, Act.put, List.setIfInBounds_toArray, List.set_cons_zero, List.set_cons_succ]
          refine wpAnyH_take (i := 20) (v := ?_) rfl (by kernel_rfl) (by kernel_rfl) (by kernel_rfl) (fun _ _ _ h => h) (Or.inl ⟨by rfl, ?_⟩) (by assumption) ?_
          rotate_left
          · (intro w hSw; (try dsimp only at hSw); go_simp); all_goals (with_reducible rfl)
          simp only [List.getElem_toArray, List.getElem_cons_succ, List.getElem_cons_zero, Act.put, List.setIfInBounds_toArray, List.set_cons_zero, List.set_cons_succ]
          refine wpAnyH_ready (rs := [21]) (by kernel_rfl) (by simp) (AllReadyH.cons rfl (fun K hK => ?_) AllReadyH.nil)
          go_simp
          refine hK.out _ _ (HBX.out _ HE6.out.2.2.2) (fun hHeld => ?_)
          clear hK K
          refine wpAnyH_done (by kernel_rfl) ?_ _
          go_wp2_with fail
          go_ret
          exact .inr ⟨HR.out, rfl, HFIN.out _ _ _ HE6.out.1⟩
      ·
        go_simp
        refine hK.out _ _ (HBX.out _ (HI0.out.alloc (.cells #[.string (Em.str op), .int .i64 tn, .slice a tl.length cap] 25)).blk) (fun hHeld => ?_)
        clear hK K
        refine wpAnyH_ready (rs := [5, 7]) (by kernel_rfl) (by simp) (AllReadyH.cons rfl (fun K hK => ?_) (AllReadyH.cons rfl (fun K hK => ?_) AllReadyH.nil))
        ·
          have hcc := (HI0.out.alloc (.cells #[.string (Em.str op), .int .i64 tn, .slice a tl.length cap] 25)).c0
          go_simp
          refine hK.out _ _ (HBX.out _ (HI0.out.alloc (.cells #[.string (Em.str op), .int .i64 tn, .slice a tl.length cap] 25)).blk) (fun hHeld => ?_)
          clear hK K hcc
          refine wpAnyH_ready (rs := [7]) (by kernel_rfl) (by simp) (AllReadyH.cons rfl (fun K hK => ?_) AllReadyH.nil)
          go_simp
          refine hK.out _ _ (HBX.out _ ((HI0.out.alloc (.cells #[.string (Em.str op), .int .i64 tn, .slice a tl.length cap] 25)).alloc (.cells #[.int .i64 n] 3)).blk) (fun hHeld => ?_)
          clear hK K
          refine wpAnyH_ready (rs := [8]) (by kernel_rfl) (by simp) (AllReadyH.cons rfl (fun K hK => ?_) AllReadyH.nil)
          refine step_sayV (w := w2) (by rfl) _ _ (by rfl) n _ (by rfl) (by rfl) ((HI0.out.alloc (.cells #[.string (Em.str op), .int .i64 tn, .slice a tl.length cap] 25)).alloc (.cells #[.int .i64 n] 3)) (by simp [go_sem]) hdl1 ?_
          intro v5 X5 hI5 hg5
          obtain ⟨xa, xc, hxe⟩ := hI5.own.form
          have hxf : v5 = .slice xa (D.length + 1) xc := by rw [hxe]; simp
          subst hxf
          have HI5 : Hid (SayI w2 X5 B Z sb (.slice va D.length vc) (.slice ta D.length tc) (.slice xa (D.length + 1) xc) (.slice ta D.length tc) (D.map (·.1) ++ [n]) (D.map (·.2)) N T (.agg #[.string (Em.str op), .int .i64 tn, .slice a tl.length cap])) := hI5
          have HT5 : Hid (X5.cell? ⟨w2.heap.size, 0, none⟩ = some (.string (Em.str op)) ∧ X5.cell? ⟨w2.heap.size, 1, none⟩ = some (.int .i64 tn) ∧ X5.cell? ⟨w2.heap.size, 2, none⟩ = some (.slice a tl.length cap)) := ⟨hg5.cell (by simp [go_sem]) HVN0.out, hg5.cell (by simp [go_sem]) HVN0.out, hg5.cell (by simp [go_sem]) HVN0.out⟩
          refine hK.out _ _ (HBX.out _ hI5.blk) (fun hHeld => ?_)
          clear hK K hxe hI5 hg5
          refine wpAnyH_ready (rs := [15]) (by kernel_rfl) (by simp) (AllReadyH.cons rfl (fun K hK => ?_) AllReadyH.nil)
          refine step_sayT (w := w2) (by rfl) _ _ (by rfl) _ (by rfl) (by rfl) HI5.out HT5.out hdl2 ?_
          intro t6 X6 h6
          obtain ⟨ya, yc, hye, -, -⟩ := ownTys_form h6.2.2.1
          have hyf : t6 = .slice ya (D.length + 1) yc := by rw [hye]; simp
          subst hyf
          have s06 := h6.1.1
          have s16 := h6.1.2.1
          have f6 := h6.1.2.2.2
          have HE6 : Hid _ := say_done HI5.out.nv hsb' HI5.out.vn hi64 h6
          refine hK.out _ _ (HBX.out _ HE6.out.2.1) (fun hHeld => ?_)
          clear hK K hye h6
          refine wpAnyH_take (i := 16) (v := ?_) rfl (by kernel_rfl) (by kernel_rfl) (by kernel_rfl) (fun _ _ _ h => h) (Or.inl ⟨by rfl, ?_⟩) (by assumption) ?_
          rotate_left
          · (intro w hSw; (try dsimp only at hSw); go_simp); all_goals (with_reducible rfl)
          simp only [List.getElem_toArray, List.getElem_cons_succ, List.getElem_cons_zero, Act.put, List.setIfInBounds_toArray, List.set_cons_zero, List.set_cons_succ]
          refine wpAnyH_take (i := 17) (v := ?_) rfl (by kernel_rfl) (by kernel_rfl) (by kernel_rfl) (fun _ _ _ h => h) (Or.inl ⟨by rfl, ?_⟩) (by assumption) ?_
          rotate_left
          · (intro w hSw; (try dsimp only at hSw); go_simp); all_goals (with_reducible rfl)
          simp only [List.getElem_toArray, List.getElem_cons_succ, List.getElem_cons_zero, Act.put, List.setIfInBounds_toArray, List.set_cons_zero, List.set_cons_succ]
          refine wpAnyH_ready (rs := [18]) (by kernel_rfl) (by simp) (AllReadyH.cons rfl (fun K hK => ?_) AllReadyH.nil)
          go_simp
          refine hK.out _ _ (HBX.out _ HE6.out.2.2.1) (fun hHeld => ?_)
          clear hK K
          refine wpAnyH_take (i := 19) (v := ?_) rfl (by kernel_rfl) (by kernel_rfl) (by kernel_rfl) (fun _ _ _ h => h) (Or.inl ⟨by rfl, ?_⟩) (by assumption) ?_
          rotate_left
          · (intro w hSw; (try dsimp only at hSw); go_simp); all_goals (with_reducible rfl)
          simp only [List.getElem_toArray, List.getElem_cons_succ, List.getElem_cons_zero, Act.put, List.setIfInBounds_toArray, List.set_cons_zero, List.set_cons_succ]
          refine wpAnyH_take (i := 20) (v := ?_) rfl (by kernel_rfl) (by kernel_rfl) (by kernel_rfl) (fun _ _ _ h => h) (Or.inl ⟨by rfl, ?_⟩) (by assumption) ?_
          rotate_left
          · (intro w hSw; (try dsimp only at hSw); go_simp); all_goals (with_reducible rfl)
          simp only [List.getElem_toArray, List.getElem_cons_succ, List.getElem_cons_zero, Act.put, List.setIfInBounds_toArray, List.set_cons_zero, List.set_cons_succ]
          refine wpAnyH_ready (rs := [21]) (by kernel_rfl) (by simp) (AllReadyH.cons rfl (fun K hK => ?_) AllReadyH.nil)
          go_simp
          refine hK.out _ _ (HBX.out _ HE6.out.2.2.2) (fun hHeld => ?_)
          clear hK K
          refine wpAnyH_done (by kernel_rfl) ?_ _
          go_wp2_with fail
          go_ret
          exact .inr ⟨HR.out, rfl, HFIN.out _ _ _ HE6.out.1⟩
        ·
          go_simp
          refine hK.out _ _ (HBX.out _ ((HI0.out.alloc (.cells #[.string (Em.str op), .int .i64 tn, .slice a tl.length cap] 25)).alloc (.cells #[.int .i64 n] 3)).blk) (fun hHeld => ?_)
          clear hK K
          refine wpAnyH_ready (rs := [5]) (by kernel_rfl) (by simp) (AllReadyH.cons rfl (fun K hK => ?_) AllReadyH.nil)
          have hcc := ((HI0.out.alloc (.cells #[.string (Em.str op), .int .i64 tn, .slice a tl.length cap] 25)).alloc (.cells #[.int .i64 n] 3)).c0
          go_simp
          refine hK.out _ _ (HBX.out _ ((HI0.out.alloc (.cells #[.string (Em.str op), .int .i64 tn, .slice a tl.length cap] 25)).alloc (.cells #[.int .i64 n] 3)).blk) (fun hHeld => ?_)
          clear hK K hcc
          refine wpAnyH_ready (rs := [8]) (by kernel_rfl) (by simp) (AllReadyH.cons rfl (fun K hK => ?_) AllReadyH.nil)
          refine step_sayV (w := w2) (by rfl) _ _ (by rfl) n _ (by rfl) (by rfl) ((HI0.out.alloc (.cells #[.string (Em.str op), .int .i64 tn, .slice a tl.length cap] 25)).alloc (.cells #[.int .i64 n] 3)) (by simp [go_sem]) hdl1 ?_
          intro v5 X5 hI5 hg5
          obtain ⟨xa, xc, hxe⟩ := hI5.own.form
          have hxf : v5 = .slice xa (D.length + 1) xc := by rw [hxe]; simp
          subst hxf
          have HI5 : Hid (SayI w2 X5 B Z sb (.slice va D.length vc) (.slice ta D.length tc) (.slice xa (D.length + 1) xc) (.slice ta D.length tc) (D.map (·.1) ++ [n]) (D.map (·.2)) N T (.agg #[.string (Em.str op), .int .i64 tn, .slice a tl.length cap])) := hI5
          have HT5 : Hid (X5.cell? ⟨w2.heap.size, 0, none⟩ = some (.string (Em.str op)) ∧ X5.cell? ⟨w2.heap.size, 1, none⟩ = some (.int .i64 tn) ∧ X5.cell? ⟨w2.heap.size, 2, none⟩ = some (.slice a tl.length cap)) := ⟨hg5.cell (by simp [go_sem]) HVN0.out, hg5.cell (by simp [go_sem]) HVN0.out, hg5.cell (by simp [go_sem]) HVN0.out⟩
          refine hK.out _ _ (HBX.out _ hI5.blk) (fun hHeld => ?_)
          clear hK K hxe hI5 hg5
          refine wpAnyH_ready (rs := [15]) (by kernel_rfl) (by simp) (AllReadyH.cons rfl (fun K hK => ?_) AllReadyH.nil)
          refine step_sayT (w := w2) (by rfl) _ _ (by rfl) _ (by rfl) (by rfl) HI5.out HT5.out hdl2 ?_
          intro t6 X6 h6
          obtain ⟨ya, yc, hye, -, -⟩ := ownTys_form h6.2.2.1
          have hyf : t6 = .slice ya (D.length + 1) yc := by rw [hye]; simp
          subst hyf
          have s06 := h6.1.1
          have s16 := h6.1.2.1
          have f6 := h6.1.2.2.2
          have HE6 : Hid _ := say_done HI5.out.nv hsb' HI5.out.vn hi64 h6
          refine hK.out _ _ (HBX.out _ HE6.out.2.1) (fun hHeld => ?_)
          clear hK K hye h6
          refine wpAnyH_take (i := 16) (v := ?_) rfl (by kernel_rfl) (by kernel_rfl) (by kernel_rfl) (fun _ _ _ h => h) (Or.inl ⟨by rfl, ?_⟩) (by assumption) ?_
          rotate_left
          · (intro w hSw; (try dsimp only at hSw); go_simp); all_goals (with_reducible rfl)
          simp only [List.getElem_toArray, List.getElem_cons_succ, List.getElem_cons_zero, Act.put, List.setIfInBounds_toArray, List.set_cons_zero, List.set_cons_succ]
          refine wpAnyH_take (i := 17) (v := ?_) rfl (by kernel_rfl) (by kernel_rfl) (by kernel_rfl) (fun _ _ _ h => h) (Or.inl ⟨by rfl, ?_⟩) (by assumption) ?_
          rotate_left
          · (intro w hSw; (try dsimp only at hSw); go_simp); all_goals (with_reducible rfl)
          simp only [List.getElem_toArray, List.getElem_cons_succ, List.getElem_cons_zero, Act.put, List.setIfInBounds_toArray, List.set_cons_zero, List.set_cons_succ]
          refine wpAnyH_ready (rs := [18]) (by kernel_rfl) (by simp) (AllReadyH.cons rfl (fun K hK => ?_) AllReadyH.nil)
          go_simp
          refine hK.out _ _ (HBX.out _ HE6.out.2.2.1) (fun hHeld => ?_)
          clear hK K
          refine wpAnyH_take (i := 19) (v := ?_) rfl (by kernel_rfl) (by kernel_rfl) (by kernel_rfl) (fun _ _ _ h => h) (Or.inl ⟨by rfl, ?_⟩) (by assumption) ?_
          rotate_left
          · (intro w hSw; (try dsimp only at hSw); go_simp); all_goals (with_reducible rfl)
          simp only [List.getElem_toArray, List.getElem_cons_succ, List.getElem_cons_zero, Act.put, List.setIfInBounds_toArray, List.set_cons_zero, List.set_cons_succ]
          refine wpAnyH_take (i := 20) (v := ?_) rfl (by kernel_rfl) (by kernel_rfl) (by kernel_rfl) (fun _ _ _ h => h) (Or.inl ⟨by rfl, ?_⟩) (by assumption) ?_
          rotate_left
          · (intro w hSw; (try dsimp only at hSw); go_simp); all_goals (with_reducible rfl)
          simp only [List.getElem_toArray, List.getElem_cons_succ, List.getElem_cons_zero, Act.put, List.setIfInBounds_toArray, List.set_cons_zero, List.set_cons_succ]
          refine wpAnyH_ready (rs := [21]) (by kernel_rfl) (by simp) (AllReadyH.cons rfl (fun K hK => ?_) AllReadyH.nil)
          go_simp
          refine hK.out _ _ (HBX.out _ HE6.out.2.2.2) (fun hHeld => ?_)
          clear hK K
          refine wpAnyH_done (by kernel_rfl) ?_ _
          go_wp2_with fail
          go_ret
          exact .inr ⟨HR.out, rfl, HFIN.out _ _ _ HE6.out.1⟩
    ·
      go_simp
      refine hK.out _ _ (HBX.out _ (HI0.out.alloc (.cells #[.string (Em.str op), .int .i64 tn, .slice a tl.length cap] 25)).blk) (fun hHeld => ?_)
      clear hK K
      refine wpAnyH_ready (rs := [5, 7, 12]) (by kernel_rfl) (by simp) (AllReadyH.cons rfl (fun K hK => ?_) (AllReadyH.cons rfl (fun K hK => ?_) (AllReadyH.cons rfl (fun K hK => ?_) AllReadyH.nil)))
      ·
        have hcc := (HI0.out.alloc (.cells #[.string (Em.str op), .int .i64 tn, .slice a tl.length cap] 25)).c0
        go_simp
        refine hK.out _ _ (HBX.out _ (HI0.out.alloc (.cells #[.string (Em.str op), .int .i64 tn, .slice a tl.length cap] 25)).blk) (fun hHeld => ?_)
        clear hK K hcc
        refine wpAnyH_ready (rs := [7, 12]) (by kernel_rfl) (by simp) (AllReadyH.cons rfl (fun K hK => ?_) (AllReadyH.cons rfl (fun K hK => ?_) AllReadyH.nil))
        ·
          go_simp
          refine hK.out _ _ (HBX.out _ ((HI0.out.alloc (.cells #[.string (Em.str op), .int .i64 tn, .slice a tl.length cap] 25)).alloc (.cells #[.int .i64 n] 3)).blk) (fun hHeld => ?_)
          clear hK K
          refine wpAnyH_ready (rs := [8, 12]) (by kernel_rfl) (by simp) (AllReadyH.cons rfl (fun K hK => ?_) (AllReadyH.cons rfl (fun K hK => ?_) AllReadyH.nil))
          ·
            refine step_sayV (w := w2) (by rfl) _ _ (by rfl) n _ (by rfl) (by rfl) ((HI0.out.alloc (.cells #[.string (Em.str op), .int .i64 tn, .slice a tl.length cap] 25)).alloc (.cells #[.int .i64 n] 3)) (by simp [go_sem]) hdl1 ?_
            intro v5 X5 hI5 hg5
            obtain ⟨xa, xc, hxe⟩ := hI5.own.form
            have hxf : v5 = .slice xa (D.length + 1) xc := by rw [hxe]; simp
            subst hxf
            have HI5 : Hid (SayI w2 X5 B Z sb (.slice va D.length vc) (.slice ta D.length tc) (.slice xa (D.length + 1) xc) (.slice ta D.length tc) (D.map (·.1) ++ [n]) (D.map (·.2)) N T (.agg #[.string (Em.str op), .int .i64 tn, .slice a tl.length cap])) := hI5
            have HT5 : Hid (X5.cell? ⟨w2.heap.size, 0, none⟩ = some (.string (Em.str op)) ∧ X5.cell? ⟨w2.heap.size, 1, none⟩ = some (.int .i64 tn) ∧ X5.cell? ⟨w2.heap.size, 2, none⟩ = some (.slice a tl.length cap)) := ⟨hg5.cell (by simp [go_sem]) HVN0.out, hg5.cell (by simp [go_sem]) HVN0.out, hg5.cell (by simp [go_sem]) HVN0.out⟩
            refine hK.out _ _ (HBX.out _ hI5.blk) (fun hHeld => ?_)
            clear hK K hxe hI5 hg5
            refine wpAnyH_ready (rs := [12]) (by kernel_rfl) (by simp) (AllReadyH.cons rfl (fun K hK => ?_) AllReadyH.nil)
            have hcc := HI5.out.c1
            go_simp
            refine hK.out _ _ (HBX.out _ HI5.out.blk) (fun hHeld => ?_)
            clear hK K hcc
            refine wpAnyH_ready (rs := [15]) (by kernel_rfl) (by simp) (AllReadyH.cons rfl (fun K hK => ?_) AllReadyH.nil)
            refine step_sayT (w := w2) (by rfl) _ _ (by rfl) _ (by rfl) (by rfl) HI5.out HT5.out hdl2 ?_
            intro t6 X6 h6
            obtain ⟨ya, yc, hye, -, -⟩ := ownTys_form h6.2.2.1
            have hyf : t6 = .slice ya (D.length + 1) yc := by rw [hye]; simp
            subst hyf
            have s06 := h6.1.1
            have s16 := h6.1.2.1
            have f6 := h6.1.2.2.2
            have HE6 : Hid _ := say_done HI5.out.nv hsb' HI5.out.vn hi64 h6
            refine hK.out _ _ (HBX.out _ HE6.out.2.1) (fun hHeld => ?_)
            clear hK K hye h6
            refine wpAnyH_take (i := 16) (v := ?_) rfl (by kernel_rfl) (by kernel_rfl) (by kernel_rfl) (fun _ _ _ h => h) (Or.inl ⟨by rfl, ?_⟩) (by assumption) ?_
            rotate_left
            · (intro w hSw; (try dsimp only at hSw); go_simp); all_goals (with_reducible rfl)
            simp only [List.getElem_toArray, List.getElem_cons_succ, List.getElem_cons_zero, Act.put, List.setIfInBounds_toArray, List.set_cons_zero, List.set_cons_succ]
            refine wpAnyH_take (i := 17) (v := ?_) rfl (by kernel_rfl) (by kernel_rfl) (by kernel_rfl) (fun _ _ _ h => h) (Or.inl ⟨by rfl, ?_⟩) (by assumption) ?_
            rotate_left
            · (intro w hSw; (try dsimp only at hSw); go_simp); all_goals (with_reducible rfl)
            simp only [List.getElem_toArray, List.getElem_cons_succ, List.getElem_cons_zero, Act.put, List.setIfInBounds_toArray, List.set_cons_zero, List.set_cons_succ]
            refine wpAnyH_ready (rs := [18]) (by kernel_rfl) (by simp) (AllReadyH.cons rfl (fun K hK => ?_) AllReadyH.nil)
            go_simp
            refine hK.out _ _ (HBX.out _ HE6.out.2.2.1) (fun hHeld => ?_)
            clear hK K
            refine wpAnyH_take (i := 19) (v := ?_) rfl (by kernel_rfl) (by kernel_rfl) (by kernel_rfl) (fun _ _ _ h => h) (Or.inl ⟨by rfl, ?_⟩) (by assumption) ?_
            rotate_left
            · (intro w hSw; (try dsimp only at hSw); go_simp); all_goals (with_reducible rfl)
            simp only [List.getElem_toArray, List.getElem_cons_succ, List.getElem_cons_zero, Act.put, List.setIfInBounds_toArray, List.set_cons_zero, List.set_cons_succ]
            refine wpAnyH_take (i := 20) (v := ?_) rfl (by kernel_rfl) (by kernel_rfl) (by kernel_rfl) (fun _ _ _ h => h) (Or.inl ⟨by rfl, ?_⟩) (by assumption) ?_
            rotate_left
            · (intro w hSw; (try dsimp only at hSw); go_simp); all_goals (with_reducible rfl)
            simp only [List.getElem_toArray, List.getElem_cons_succ, List.getElem_cons_zero, Act.put, List.setIfInBounds_toArray, List.set_cons_zero, List.set_cons_succ]
            refine wpAnyH_ready (rs := [21]) (by kernel_rfl) (by simp) (AllReadyH.cons rfl (fun K hK => ?_) AllReadyH.nil)
            go_simp
            refine hK.out _ _ (HBX.out _ HE6.out.2.2.2) (fun hHeld => ?_)
            clear hK K
            refine wpAnyH_done (by kernel_rfl) ?_ _
            go_wp2_with fail
            go_ret
            exact .inr ⟨HR.out, rfl, HFIN.out _ _ _ HE6.out.1⟩
          ·
            have hcc := ((HI0.out.alloc (.cells #[.string (Em.str op), .int .i64 tn, .slice a tl.length cap] 25)).alloc (.cells #[.int .i64 n] 3)).c1
            go_simp
            refine hK.out _ _ (HBX.out _ ((HI0.out.alloc (.cells #[.string (Em.str op), .int .i64 tn, .slice a tl.length cap] 25)).alloc (.cells #[.int .i64 n] 3)).blk) (fun hHeld => ?_)
            clear hK K hcc
            refine wpAnyH_ready (rs := [8]) (by kernel_rfl) (by simp) (AllReadyH.cons rfl (fun K hK => ?_) AllReadyH.nil)
            refine step_sayV (w := w2) (by rfl) _ _ (by rfl) n _ (by rfl) (by rfl) ((HI0.out.alloc (.cells #[.string (Em.str op), .int .i64 tn, .slice a tl.length cap] 25)).alloc (.cells #[.int .i64 n] 3)) (by simp [go_sem]) hdl1 ?_
            intro v5 X5 hI5 hg5
            obtain ⟨xa, xc, hxe⟩ := hI5.own.form
            have hxf : v5 = .slice xa (D.length + 1) xc := by rw [hxe]; simp
            subst hxf
            have HI5 : Hid (SayI w2 X5 B Z sb (.slice va D.length vc) (.slice ta D.length tc) (.slice xa (D.length + 1) xc) (.slice ta D.length tc) (D.map (·.1) ++ [n]) (D.map (·.2)) N T (.agg #[.string (Em.str op), .int .i64 tn, .slice a tl.length cap])) := hI5
            have HT5 : Hid (X5.cell? ⟨w2.heap.size, 0, none⟩ = some (.string (Em.str op)) ∧ X5.cell? ⟨w2.heap.size, 1, none⟩ = some (.int .i64 tn) ∧ X5.cell? ⟨w2.heap.size, 2, none⟩ = some (.slice a tl.length cap)) := ⟨hg5.cell (by simp [go_sem]) HVN0.out, hg5.cell (by simp [go_sem]) HVN0.out, hg5.cell (by simp [go_sem]) HVN0.out⟩
            refine hK.out _ _ (HBX.out _ hI5.blk) (fun hHeld => ?_)
            clear hK K hxe hI5 hg5
            refine wpAnyH_ready (rs := [15]) (by kernel_rfl) (by simp) (AllReadyH.cons rfl (fun K hK => ?_) AllReadyH.nil)
            refine step_sayT (w := w2) (by rfl) _ _ (by rfl) _ (by rfl) (by rfl) HI5.out HT5.out hdl2 ?_
            intro t6 X6 h6
            obtain ⟨ya, yc, hye, -, -⟩ := ownTys_form h6.2.2.1
            have hyf : t6 = .slice ya (D.length + 1) yc := by rw [hye]; simp
            subst hyf
            have s06 := h6.1.1
            have s16 := h6.1.2.1
            have f6 := h6.1.2.2.2
            have HE6 : Hid _ := say_done HI5.out.nv hsb' HI5.out.vn hi64 h6
            refine hK.out _ _ (HBX.out _ HE6.out.2.1) (fun hHeld => ?_)
            clear hK K hye h6
            refine wpAnyH_take (i := 16) (v := ?_) rfl (by kernel_rfl) (by kernel_rfl) (by kernel_rfl) (fun _ _ _ h => h) (Or.inl ⟨by rfl, ?_⟩) (by assumption) ?_
            rotate_left
            · (intro w hSw; (try dsimp only at hSw); go_simp); all_goals (with_reducible rfl)
            simp only [List.getElem_toArray, List.getElem_cons_succ, List.getElem_cons_zero, Act.put, List.setIfInBounds_toArray, List.set_cons_zero, List.set_cons_succ]
            refine wpAnyH_take (i := 17) (v := ?_) rfl (by kernel_rfl) (by kernel_rfl) (by kernel_rfl) (fun _ _ _ h => h) (Or.inl ⟨by rfl, ?_⟩) (by assumption) ?_
            rotate_left
            · (intro w hSw; (try dsimp only at hSw); go_simp); all_goals (with_reducible rfl)
            simp only [List.getElem_toArray, List.getElem_cons_succ, List.getElem_cons_zero, Act.put, List.setIfInBounds_toArray, List.set_cons_zero, List.set_cons_succ]
            refine wpAnyH_ready (rs := [18]) (by kernel_rfl) (by simp) (AllReadyH.cons rfl (fun K hK => ?_) AllReadyH.nil)
            go_simp
            refine hK.out _ _ (HBX.out _ HE6.out.2.2.1) (fun hHeld => ?_)
            clear hK K
            refine wpAnyH_take (i := 19) (v := ?_) rfl (by kernel_rfl) (by kernel_rfl) (by kernel_rfl) (fun _ _ _ h => h) (Or.inl ⟨by rfl, ?_⟩) (by assumption) ?_
            rotate_left
            · (intro w hSw; (try dsimp only at hSw); go_simp); all_goals (with_reducible rfl)
            simp only [List.getElem_toArray, List.getElem_cons_succ, List.getElem_cons_zero, Act.put, List.setIfInBounds_toArray, List.set_cons_zero, List.set_cons_succ]
            refine wpAnyH_take (i := 20) (v := ?_) rfl (by kernel_rfl) (by kernel_rfl) (by kernel_rfl) (fun _ _ _ h => h) (Or.inl ⟨by rfl, ?_⟩) (by assumption) ?_
            rotate_left
            · (intro w hSw; (try dsimp only at hSw); go_simp); all_goals (with_reducible rfl)
            simp only [List.getElem_toArray, List.getElem_cons_succ, List.getElem_cons_zero, Act.put, List.setIfInBounds_toArray, List.set_cons_zero, List.set_cons_succ]
            refine wpAnyH_ready (rs := [21]) (by kernel_rfl) (by simp) (AllReadyH.cons rfl (fun K hK => ?_) AllReadyH.nil)
            go_simp
            refine hK.out _ _ (HBX.out _ HE6.out.2.2.2) (fun hHeld => ?_)
            clear hK K
            refine wpAnyH_done (by kernel_rfl) ?_ _
            go_wp2_with fail
            go_ret
            exact .inr ⟨HR.out, rfl, HFIN.out _ _ _ HE6.out.1⟩
        ·
          have hcc := (HI0.out.alloc (.cells #[.string (Em.str op), .int .i64 tn, .slice a tl.length cap] 25)).c1
          go_simp
          refine hK.out _ _ (HBX.out _ (HI0.out.alloc (.cells #[.string (Em.str op), .int .i64 tn, .slice a tl.length cap] 25)).blk) (fun hHeld => ?_)
          clear hK K hcc
          refine wpAnyH_ready (rs := [7]) (by kernel_rfl) (by simp) (AllReadyH.cons rfl (fun K hK => ?_) AllReadyH.nil)
          go_simp
          refine hK.out _ _ (HBX.out _ ((HI0.out.alloc (.cells #[.string (Em.str op), .int .i64 tn, .slice a tl.length cap] 25)).alloc (.cells #[.int .i64 n] 3)).blk) (fun hHeld => ?_)
          clear hK K
          refine wpAnyH_ready (rs := [8]) (by kernel_rfl) (by simp) (AllReadyH.cons rfl (fun K hK => ?_) AllReadyH.nil)
          refine step_sayV (w := w2) (by rfl) _ _ (by rfl) n _ (by rfl) (by rfl) ((HI0.out.alloc (.cells #[.string (Em.str op), .int .i64 tn, .slice a tl.length cap] 25)).alloc (.cells #[.int .i64 n] 3)) (by simp [go_sem]) hdl1 ?_
          intro v5 X5 hI5 hg5
          obtain ⟨xa, xc, hxe⟩ := hI5.own.form
          have hxf : v5 = .slice xa (D.length + 1) xc := by rw [hxe]; simp
          subst hxf
          have HI5 : Hid (SayI w2 X5 B Z sb (.slice va D.length vc) (.slice ta D.length tc) (.slice xa (D.length + 1) xc) (.slice ta D.length tc) (D.map (·.1) ++ [n]) (D.map (·.2)) N T (.agg #[.string (Em.str op), .int .i64 tn, .slice a tl.length cap])) := hI5
          have HT5 : Hid (X5.cell? ⟨w2.heap.size, 0, none⟩ = some (.string (Em.str op)) ∧ X5.cell? ⟨w2.heap.size, 1, none⟩ = some (.int .i64 tn) ∧ X5.cell? ⟨w2.heap.size, 2, none⟩ = some (.slice a tl.length cap)) := ⟨hg5.cell (by simp [go_sem]) HVN0.out, hg5.cell (by simp [go_sem]) HVN0.out, hg5.cell (by simp [go_sem]) HVN0.out⟩
          refine hK.out _ _ (HBX.out _ hI5.blk) (fun hHeld => ?_)
          clear hK K hxe hI5 hg5
          refine wpAnyH_ready (rs := [15]) (by kernel_rfl) (by simp) (AllReadyH.cons rfl (fun K hK => ?_) AllReadyH.nil)
          refine step_sayT (w := w2) (by rfl) _ _ (by rfl) _ (by rfl) (by rfl) HI5.out HT5.out hdl2 ?_
          intro t6 X6 h6
          obtain ⟨ya, yc, hye, -, -⟩ := ownTys_form h6.2.2.1
          have hyf : t6 = .slice ya (D.length + 1) yc := by rw [hye]; simp
          subst hyf
          have s06 := h6.1.1
          have s16 := h6.1.2.1
          have f6 := h6.1.2.2.2
          have HE6 : Hid _ := say_done HI5.out.nv hsb' HI5.out.vn hi64 h6
          refine hK.out _ _ (HBX.out _ HE6.out.2.1) (fun hHeld => ?_)
          clear hK K hye h6
          refine wpAnyH_take (i := 16) (v := ?_) rfl (by kernel_rfl) (by kernel_rfl) (by kernel_rfl) (fun _ _ _ h => h) (Or.inl ⟨by rfl, ?_⟩) (by assumption) ?_
          rotate_left
          · (intro w hSw; (try dsimp only at hSw); go_simp); all_goals (with_reducible rfl)
          simp only [List.getElem_toArray, List.getElem_cons_succ, List.getElem_cons_zero, Act.put, List.setIfInBounds_toArray, List.set_cons_zero, List.set_cons_succ]
          refine wpAnyH_take (i := 17) (v := ?_) rfl (by kernel_rfl) (by kernel_rfl) (by kernel_rfl) (fun _ _ _ h => h) (Or.inl ⟨by rfl, ?_⟩) (by assumption) ?_
          rotate_left
          · (intro w hSw; (try dsimp only at hSw); go_simp); all_goals (with_reducible rfl)
          simp only [List.getElem_toArray, List.getElem_cons_succ, List.getElem_cons_zero, Act.put, List.setIfInBounds_toArray, List.set_cons_zero, List.set_cons_succ]
          refine wpAnyH_ready (rs := [18]) (by kernel_rfl) (by simp) (AllReadyH.cons rfl (fun K hK => ?_) AllReadyH.nil)
          go_simp
          refine hK.out _ _ (HBX.out _ HE6.out.2.2.1) (fun hHeld => ?_)
          clear hK K
          refine wpAnyH_take (i := 19) (v := ?_) rfl (by kernel_rfl) (by kernel_rfl) (by kernel_rfl) (fun _ _ _ h => h) (Or.inl ⟨by rfl, ?_⟩) (by assumption) ?_
          rotate_left
          · (intro w hSw; (try dsimp only at hSw); go_simp); all_goals (with_reducible rfl)
          simp only [List.getElem_toArray, List.getElem_cons_succ, List.getElem_cons_zero, Act.put, List.setIfInBounds_toArray, List.set_cons_zero, List.set_cons_succ]
          refine wpAnyH_take (i := 20) (v := ?_) rfl (by kernel_rfl) (by kernel_rfl) (by kernel_rfl) (fun _ _ _ h => h) (Or.inl ⟨by rfl, ?_⟩) (by assumption) ?_
          rotate_left
          · (intro w hSw; (try dsimp only at hSw); go_simp); all_goals (with_reducible rfl)
          simp only [List.getElem_toArray, List.getElem_cons_succ, List.getElem_cons_zero, Act.put, List.setIfInBounds_toArray, List.set_cons_zero, List.set_cons_succ]
          refine wpAnyH_ready (rs := [21]) (by kernel_rfl) (by simp) (AllReadyH.cons rfl (fun K hK => ?_) AllReadyH.nil)
          go_simp
          refine hK.out _ _ (HBX.out _ HE6.out.2.2.2) (fun hHeld => ?_)
          clear hK K
          refine wpAnyH_done (by kernel_rfl) ?_ _
          go_wp2_with fail
          go_ret
          exact .inr ⟨HR.out, rfl, HFIN.out _ _ _ HE6.out.1⟩
      ·
        go_simp
        refine hK.out _ _ (HBX.out _ ((HI0.out.alloc (.cells #[.string (Em.str op), .int .i64 tn, .slice a tl.length cap] 25)).alloc (.cells #[.int .i64 n] 3)).blk) (fun hHeld => ?_)
        clear hK K
        refine wpAnyH_ready (rs := [5, 12]) (by kernel_rfl) (by simp) (AllReadyH.cons rfl (fun K hK => ?_) (AllReadyH.cons rfl (fun K hK => ?_) AllReadyH.nil))
        ·
          have hcc := ((HI0.out.alloc (.cells #[.string (Em.str op), .int .i64 tn, .slice a tl.length cap] 25)).alloc (.cells #[.int .i64 n] 3)).c0
          go_simp
          refine hK.out _ _ (HBX.out _ ((HI0.out.alloc (.cells #[.string (Em.str op), .int .i64 tn, .slice a tl.length cap] 25)).alloc (.cells #[.int .i64 n] 3)).blk) (fun hHeld => ?_)
          clear hK K hcc
          refine wpAnyH_ready (rs := [8, 12]) (by kernel_rfl) (by simp) (AllReadyH.cons rfl (fun K hK => ?_) (AllReadyH.cons rfl (fun K hK => ?_) AllReadyH.nil))
          ·
            refine step_sayV (w := w2) (by rfl) _ _ (by rfl) n _ (by rfl) (by rfl) ((HI0.out.alloc (.cells #[.string (Em.str op), .int .i64 tn, .slice a tl.length cap] 25)).alloc (.cells #[.int .i64 n] 3)) (by simp [go_sem]) hdl1 ?_
            intro v5 X5 hI5 hg5
            obtain ⟨xa, xc, hxe⟩ := hI5.own.form
            have hxf : v5 = .slice xa (D.length + 1) xc := by rw [hxe]; simp
            subst hxf
            have HI5 : Hid (SayI w2 X5 B Z sb (.slice va D.length vc) (.slice ta D.length tc) (.slice xa (D.length + 1) xc) (.slice ta D.length tc) (D.map (·.1) ++ [n]) (D.map (·.2)) N T (.agg #[.string (Em.str op), .int .i64 tn, .slice a tl.length cap])) := hI5
            have HT5 : Hid (X5.cell? ⟨w2.heap.size, 0, none⟩ = some (.string (Em.str op)) ∧ X5.cell? ⟨w2.heap.size, 1, none⟩ = some (.int .i64 tn) ∧ X5.cell? ⟨w2.heap.size, 2, none⟩ = some (.slice a tl.length cap)) := ⟨hg5.cell (by simp [go_sem]) HVN0.out, hg5.cell (by simp [go_sem]) HVN0.out, hg5.cell (by simp [go_sem]) HVN0.out⟩
            refine hK.out _ _ (HBX.out _ hI5.blk) (fun hHeld => ?_)
            clear hK K hxe hI5 hg5
            refine wpAnyH_ready (rs := [12]) (by kernel_rfl) (by simp) (AllReadyH.cons rfl (fun K hK => ?_) AllReadyH.nil)
            have hcc := HI5.out.c1
            go_simp
            refine hK.out _ _ (HBX.out _ HI5.out.blk) (fun hHeld => ?_)
            clear hK K hcc
            refine wpAnyH_ready (rs := [15]) (by kernel_rfl) (by simp) (AllReadyH.cons rfl (fun K hK => ?_) AllReadyH.nil)
            refine step_sayT (w := w2) (by rfl) _ _ (by rfl) _ (by rfl) (by rfl) HI5.out HT5.out hdl2 ?_
            intro t6 X6 h6
            obtain ⟨ya, yc, hye, -, -⟩ := ownTys_form h6.2.2.1
            have hyf : t6 = .slice ya (D.length + 1) yc := by rw [hye]; simp
            subst hyf
            have s06 := h6.1.1
            have s16 := h6.1.2.1
            have f6 := h6.1.2.2.2
            have HE6 : Hid _ := say_done HI5.out.nv hsb' HI5.out.vn hi64 h6
            refine hK.out _ _ (HBX.out _ HE6.out.2.1) (fun hHeld => ?_)
            clear hK K hye h6
            refine wpAnyH_take (i := 16) (v := ?_) rfl (by kernel_rfl) (by kernel_rfl) (by kernel_rfl) (fun _ _ _ h => h) (Or.inl ⟨by rfl, ?_⟩) (by assumption) ?_
            rotate_left
            · (intro w hSw; (try dsimp only at hSw); go_simp); all_goals (with_reducible rfl)
            simp only [List.getElem_toArray, List.getElem_cons_succ, List.getElem_cons_zero, Act.put, List.setIfInBounds_toArray, List.set_cons_zero, List.set_cons_succ]
            refine wpAnyH_take (i := 17) (v := ?_) rfl (by kernel_rfl) (by kernel_rfl) (by kernel_rfl) (fun _ _ _ h => h) (Or.inl ⟨by rfl, ?_⟩) (by assumption) ?_
            rotate_left
            · (intro w hSw; (try dsimp only at hSw); go_simp); all_goals (with_reducible rfl)
            simp only [List.getElem_toArray, List.getElem_cons_succ, List.getElem_cons_zero, Act.put, List.setIfInBounds_toArray, List.set_cons_zero, List.set_cons_succ]
            refine wpAnyH_ready (rs := [18]) (by kernel_rfl) (by simp) (AllReadyH.cons rfl (fun K hK => ?_) AllReadyH.nil)
            go_simp
            refine hK.out _ _ (HBX.out _ HE6.out.2.2.1) (fun hHeld => ?_)
            clear hK K
            refine wpAnyH_take (i := 19) (v := ?_) rfl (by kernel_rfl) (by kernel_rfl) (by kernel_rfl) (fun _ _ _ h => h) (Or.inl ⟨by rfl, ?_⟩) (by assumption) ?_
            rotate_left
            · (intro w hSw; (try dsimp only at hSw); go_simp); all_goals (with_reducible rfl)
            simp only [List.getElem_toArray, List.getElem_cons_succ, List.getElem_cons_zero, Act.put, List.setIfInBounds_toArray, List.set_cons_zero, List.set_cons_succ]
            refine wpAnyH_take (i := 20) (v := ?_) rfl (by kernel_rfl) (by kernel_rfl) (by kernel_rfl) (fun _ _ _ h => h) (Or.inl ⟨by rfl, ?_⟩) (by assumption) ?_
            rotate_left
            · (intro w hSw; (try dsimp only at hSw); go_simp); all_goals (with_reducible rfl)
            simp only [List.getElem_toArray, List.getElem_cons_succ, List.getElem_cons_zero, Act.put, List.setIfInBounds_toArray, List.set_cons_zero, List.set_cons_succ]
            refine wpAnyH_ready (rs := [21]) (by kernel_rfl) (by simp) (AllReadyH.cons rfl (fun K hK => ?_) AllReadyH.nil)
            go_simp
            refine hK.out _ _ (HBX.out _ HE6.out.2.2.2) (fun hHeld => ?_)
            clear hK K
            refine wpAnyH_done (by kernel_rfl) ?_ _
            go_wp2_with fail
            go_ret
            exact .inr ⟨HR.out, rfl, HFIN.out _ _ _ HE6.out.1⟩
          ·
            have hcc := ((HI0.out.alloc (.cells #[.string (Em.str op), .int .i64 tn, .slice a tl.length cap] 25)).alloc (.cells #[.int .i64 n] 3)).c1
            go_simp
            refine hK.out _ _ (HBX.out _ ((HI0.out.alloc (.cells #[.string (Em.str op), .int .i64 tn, .slice a tl.length cap] 25)).alloc (.cells #[.int .i64 n] 3)).blk) (fun hHeld => ?_)
            clear hK K hcc
            refine wpAnyH_ready (rs := [8]) (by kernel_rfl) (by simp) (AllReadyH.cons rfl (fun K hK => ?_) AllReadyH.nil)
            refine step_sayV (w := w2) (by rfl) _ _ (by rfl) n _ (by rfl) (by rfl) ((HI0.out.alloc (.cells #[.string (Em.str op), .int .i64 tn, .slice a tl.length cap] 25)).alloc (.cells #[.int .i64 n] 3)) (by simp [go_sem]) hdl1 ?_
            intro v5 X5 hI5 hg5
            obtain ⟨xa, xc, hxe⟩ := hI5.own.form
            have hxf : v5 = .slice xa (D.length + 1) xc := by rw [hxe]; simp
            subst hxf
            have HI5 : Hid (SayI w2 X5 B Z sb (.slice va D.length vc) (.slice ta D.length tc) (.slice xa (D.length + 1) xc) (.slice ta D.length tc) (D.map (·.1) ++ [n]) (D.map (·.2)) N T (.agg #[.string (Em.str op), .int .i64 tn, .slice a tl.length cap])) := hI5
            have HT5 : Hid (X5.cell? ⟨w2.heap.size, 0, none⟩ = some (.string (Em.str op)) ∧ X5.cell? ⟨w2.heap.size, 1, none⟩ = some (.int .i64 tn) ∧ X5.cell? ⟨w2.heap.size, 2, none⟩ = some (.slice a tl.length cap)) := ⟨hg5.cell (by simp [go_sem]) HVN0.out, hg5.cell (by simp [go_sem]) HVN0.out, hg5.cell (by simp [go_sem]) HVN0.out⟩
            refine hK.out _ _ (HBX.out _ hI5.blk) (fun hHeld => ?_)
            clear hK K hxe hI5 hg5
            refine wpAnyH_ready (rs := [15]) (by kernel_rfl) (by simp) (AllReadyH.cons rfl (fun K hK => ?_) AllReadyH.nil)
            refine step_sayT (w := w2) (by rfl) _ _ (by rfl) _ (by rfl) (by rfl) HI5.out HT5.out hdl2 ?_
            intro t6 X6 h6
            obtain ⟨ya, yc, hye, -, -⟩ := ownTys_form h6.2.2.1
            have hyf : t6 = .slice ya (D.length + 1) yc := by rw [hye]; simp
            subst hyf
            have s06 := h6.1.1
            have s16 := h6.1.2.1
            have f6 := h6.1.2.2.2
            have HE6 : Hid _ := say_done HI5.out.nv hsb' HI5.out.vn hi64 h6
            refine hK.out _ _ (HBX.out _ HE6.out.2.1) (fun hHeld => ?_)
            clear hK K hye h6
            refine wpAnyH_take (i := 16) (v := ?_) rfl (by kernel_rfl) (by kernel_rfl) (by kernel_rfl) (fun _ _ _ h => h) (Or.inl ⟨by rfl, ?_⟩) (by assumption) ?_
            rotate_left
            · (intro w hSw; (try dsimp only at hSw); go_simp); all_goals (with_reducible rfl)
            simp only [List.getElem_toArray, List.getElem_cons_succ, List.getElem_cons_zero, Act.put, List.setIfInBounds_toArray, List.set_cons_zero, List.set_cons_succ]
            refine wpAnyH_take (i := 17) (v := ?_) rfl (by kernel_rfl) (by kernel_rfl) (by kernel_rfl) (fun _ _ _ h => h) (Or.inl ⟨by rfl, ?_⟩) (by assumption) ?_
            rotate_left
            · (intro w hSw; (try dsimp only at hSw); go_simp); all_goals (with_reducible rfl)
            simp only [List.getElem_toArray, List.getElem_cons_succ, List.getElem_cons_zero, Act.put, List.setIfInBounds_toArray, List.set_cons_zero, List.set_cons_succ]
            refine wpAnyH_ready (rs := [18]) (by kernel_rfl) (by simp) (AllReadyH.cons rfl (fun K hK => ?_) AllReadyH.nil)
            go_simp
            refine hK.out _ _ (HBX.out _ HE6.out.2.2.1) (fun hHeld => ?_)
            clear hK K
            refine wpAnyH_take (i := 19) (v := ?_) rfl (by kernel_rfl) (by kernel_rfl) (by kernel_rfl) (fun _ _ _ h => h) (Or.inl ⟨by rfl, ?_⟩) (by assumption) ?_
            rotate_left
            · (intro w hSw; (try dsimp only at hSw); go_simp); all_goals (with_reducible rfl)
            simp only [List.getElem_toArray, List.getElem_cons_succ, List.getElem_cons_zero, Act.put, List.setIfInBounds_toArray, List.set_cons_zero, List.set_cons_succ]
            refine wpAnyH_take (i := 20) (v := ?_) rfl (by kernel_rfl) (by kernel_rfl) (by kernel_rfl) (fun _ _ _ h => h) (Or.inl ⟨by rfl, ?_⟩) (by assumption) ?_
            rotate_left
            · (intro w hSw; (try dsimp only at hSw); go_simp); all_goals (with_reducible rfl)
            simp only [List.getElem_toArray, List.getElem_cons_succ, List.getElem_cons_zero, Act.put, List.setIfInBounds_toArray, List.set_cons_zero, List.set_cons_succ]
            refine wpAnyH_ready (rs := [21]) (by kernel_rfl) (by simp) (AllReadyH.cons rfl (fun K hK => ?_) AllReadyH.nil)
            go_simp
            refine hK.out _ _ (HBX.out _ HE6.out.2.2.2) (fun hHeld => ?_)
            clear hK K
            refine wpAnyH_done (by kernel_rfl) ?_ _
            go_wp2_with fail
            go_ret
            exact .inr ⟨HR.out, rfl, HFIN.out _ _ _ HE6.out.1⟩
        ·
          have hcc := ((HI0.out.alloc (.cells #[.string (Em.str op), .int .i64 tn, .slice a tl.length cap] 25)).alloc (.cells #[.int .i64 n] 3)).c1
          go_simp
          refine hK.out _ _ (HBX.out _ ((HI0.out.alloc (.cells #[.string (Em.str op), .int .i64 tn, .slice a tl.length cap] 25)).alloc (.cells #[.int .i64 n] 3)).blk) (fun hHeld => ?_)
          clear hK K hcc
          refine wpAnyH_ready (rs := [5]) (by kernel_rfl) (by simp) (AllReadyH.cons rfl (fun K hK => ?_) AllReadyH.nil)
          have hcc := ((HI0.out.alloc (.cells #[.string (Em.str op), .int .i64 tn, .slice a tl.length cap] 25)).alloc (.cells #[.int .i64 n] 3)).c0
          go_simp
          refine hK.out _ _ (HBX.out _ ((HI0.out.alloc (.cells #[.string (Em.str op), .int .i64 tn, .slice a tl.length cap] 25)).alloc (.cells #[.int .i64 n] 3)).blk) (fun hHeld => ?_)
          clear hK K hcc
          refine wpAnyH_ready (rs := [8]) (by kernel_rfl) (by simp) (AllReadyH.cons rfl (fun K hK => ?_) AllReadyH.nil)
          refine step_sayV (w := w2) (by rfl) _ _ (by rfl) n _ (by rfl) (by rfl) ((HI0.out.alloc (.cells #[.string (Em.str op), .int .i64 tn, .slice a tl.length cap] 25)).alloc (.cells #[.int .i64 n] 3)) (by simp [go_sem]) hdl1 ?_
          intro v5 X5 hI5 hg5
          obtain ⟨xa, xc, hxe⟩ := hI5.own.form
          have hxf : v5 = .slice xa (D.length + 1) xc := by rw [hxe]; simp
          subst hxf
          have HI5 : Hid (SayI w2 X5 B Z sb (.slice va D.length vc) (.slice ta D.length tc) (.slice xa (D.length + 1) xc) (.slice ta D.length tc) (D.map (·.1) ++ [n]) (D.map (·.2)) N T (.agg #[.string (Em.str op), .int .i64 tn, .slice a tl.length cap])) := hI5
          have HT5 : Hid (X5.cell? ⟨w2.heap.size, 0, none⟩ = some (.string (Em.str op)) ∧ X5.cell? ⟨w2.heap.size, 1, none⟩ = some (.int .i64 tn) ∧ X5.cell? ⟨w2.heap.size, 2, none⟩ = some (.slice a tl.length cap)) := ⟨hg5.cell (by simp [go_sem]) HVN0.out, hg5.cell (by simp [go_sem]) HVN0.out, hg5.cell (by simp [go_sem]) HVN0.out⟩
          refine hK.out _ _ (HBX.out _ hI5.blk) (fun hHeld => ?_)
          clear hK K hxe hI5 hg5
          refine wpAnyH_ready (rs := [15]) (by kernel_rfl) (by simp) (AllReadyH.cons rfl (fun K hK => ?_) AllReadyH.nil)
          refine step_sayT (w := w2) (by rfl) _ _ (by rfl) _ (by rfl) (by rfl) HI5.out HT5.out hdl2 ?_
          intro t6 X6 h6
          obtain ⟨ya, yc, hye, -, -⟩ := ownTys_form h6.2.2.1
          have hyf : t6 = .slice ya (D.length + 1) yc := by rw [hye]; simp
          subst hyf
          have s06 := h6.1.1
          have s16 := h6.1.2.1
          have f6 := h6.1.2.2.2
          have HE6 : Hid _ := say_done HI5.out.nv hsb' HI5.out.vn hi64 h6
          refine hK.out _ _ (HBX.out _ HE6.out.2.1) (fun hHeld => ?_)
          clear hK K hye h6
          refine wpAnyH_take (i := 16) (v := ?_) rfl (by kernel_rfl) (by kernel_rfl) (by kernel_rfl) (fun _ _ _ h => h) (Or.inl ⟨by rfl, ?_⟩) (by assumption) ?_
          rotate_left
          · (intro w hSw; (try dsimp only at hSw); go_simp); all_goals (with_reducible rfl)
          simp only [List.getElem_toArray, List.getElem_cons_succ, List.getElem_cons_zero, Act.put, List.setIfInBounds_toArray, List.set_cons_zero, List.set_cons_succ]
          refine wpAnyH_take (i := 17) (v := ?_) rfl (by kernel_rfl) (by kernel_rfl) (by kernel_rfl) (fun _ _ _ h => h) (Or.inl ⟨by rfl, ?_⟩) (by assumption) ?_
          rotate_left
          · (intro w hSw; (try dsimp only at hSw); go_simp); all_goals (with_reducible rfl)
          simp only [List.getElem_toArray, List.getElem_cons_succ, List.getElem_cons_zero, Act.put, List.setIfInBounds_toArray, List.set_cons_zero, List.set_cons_succ]
          refine wpAnyH_ready (rs := [18]) (by kernel_rfl) (by simp) (AllReadyH.cons rfl (fun K hK => ?_) AllReadyH.nil)
          go_simp
          refine hK.out _ _ (HBX.out _ HE6.out.2.2.1) (fun hHeld => ?_)
          clear hK K
          refine wpAnyH_take (i := 19) (v := ?_) rfl (by kernel_rfl) (by kernel_rfl) (by kernel_rfl) (fun _ _ _ h => h) (Or.inl ⟨by rfl, ?_⟩) (by assumption) ?_
          rotate_left
          · (intro w hSw; (try dsimp only at hSw); go_simp); all_goals (with_reducible rfl)
          simp only [List.getElem_toArray, List.getElem_cons_succ, List.getElem_cons_zero, Act.put, List.setIfInBounds_toArray, List.set_cons_zero, List.set_cons_succ]
          refine wpAnyH_take (i := 20) (v := ?_) rfl (by kernel_rfl) (by kernel_rfl) (by kernel_rfl) (fun _ _ _ h => h) (Or.inl ⟨by rfl, ?_⟩) (by assumption) ?_
          rotate_left
          · (intro w hSw; (try dsimp only at hSw); go_simp); all_goals (with_reducible rfl)
          simp only [List.getElem_toArray, List.getElem_cons_succ, List.getElem_cons_zero, Act.put, List.setIfInBounds_toArray, List.set_cons_zero, List.set_cons_succ]
          refine wpAnyH_ready (rs := [21]) (by kernel_rfl) (by simp) (AllReadyH.cons rfl (fun K hK => ?_) AllReadyH.nil)
          go_simp
          refine hK.out _ _ (HBX.out _ HE6.out.2.2.2) (fun hHeld => ?_)
          clear hK K
          refine wpAnyH_done (by kernel_rfl) ?_ _
          go_wp2_with fail
          go_ret
          exact .inr ⟨HR.out, rfl, HFIN.out _ _ _ HE6.out.1⟩
      ·
        have hcc := (HI0.out.alloc (.cells #[.string (Em.str op), .int .i64 tn, .slice a tl.length cap] 25)).c1
        go_simp
        refine hK.out _ _ (HBX.out _ (HI0.out.alloc (.cells #[.string (Em.str op), .int .i64 tn, .slice a tl.length cap] 25)).blk) (fun hHeld => ?_)
        clear hK K hcc
        refine wpAnyH_ready (rs := [5, 7]) (by kernel_rfl) (by simp) (AllReadyH.cons rfl (fun K hK => ?_) (AllReadyH.cons rfl (fun K hK => ?_) AllReadyH.nil))
        ·
          have hcc := (HI0.out.alloc (.cells #[.string (Em.str op), .int .i64 tn, .slice a tl.length cap] 25)).c0
          go_simp
          refine hK.out _ _ (HBX.out _ (HI0.out.alloc (.cells #[.string (Em.str op), .int .i64 tn, .slice a tl.length cap] 25)).blk) (fun hHeld => ?_)
          clear hK K hcc
          refine wpAnyH_ready (rs := [7]) (by kernel_rfl) (by simp) (AllReadyH.cons rfl (fun K hK => ?_) AllReadyH.nil)
          go_simp
          refine hK.out _ _ (HBX.out _ ((HI0.out.alloc (.cells #[.string (Em.str op), .int .i64 tn, .slice a tl.length cap] 25)).alloc (.cells #[.int .i64 n] 3)).blk) (fun hHeld => ?_)
          clear hK K
          refine wpAnyH_ready (rs := [8]) (by kernel_rfl) (by simp) (AllReadyH.cons rfl (fun K hK => ?_) AllReadyH.nil)
          refine step_sayV (w := w2) (by rfl) _ _ (by rfl) n _ (by rfl) (by rfl) ((HI0.out.alloc (.cells #[.string (Em.str op), .int .i64 tn, .slice a tl.length cap] 25)).alloc (.cells #[.int .i64 n] 3)) (by simp [go_sem]) hdl1 ?_
          intro v5 X5 hI5 hg5
          obtain ⟨xa, xc, hxe⟩ := hI5.own.form
          have hxf : v5 = .slice xa (D.length + 1) xc := by rw [hxe]; simp
          subst hxf
          have HI5 : Hid (SayI w2 X5 B Z sb (.slice va D.length vc) (.slice ta D.length tc) (.slice xa (D.length + 1) xc) (.slice ta D.length tc) (D.map (·.1) ++ [n]) (D.map (·.2)) N T (.agg #[.string (Em.str op), .int .i64 tn, .slice a tl.length cap])) := hI5
          have HT5 : Hid (X5.cell? ⟨w2.heap.size, 0, none⟩ = some (.string (Em.str op)) ∧ X5.cell? ⟨w2.heap.size, 1, none⟩ = some (.int .i64 tn) ∧ X5.cell? ⟨w2.heap.size, 2, none⟩ = some (.slice a tl.length cap)) := ⟨hg5.cell (by simp [go_sem]) HVN0.out, hg5.cell (by simp [go_sem]) HVN0.out, hg5.cell (by simp [go_sem]) HVN0.out⟩
          refine hK.out _ _ (HBX.out _ hI5.blk) (fun hHeld => ?_)
          clear hK K hxe hI5 hg5
          refine wpAnyH_ready (rs := [15]) (by kernel_rfl) (by simp) (AllReadyH.cons rfl (fun K hK => ?_) AllReadyH.nil)
          refine step_sayT (w := w2) (by rfl) _ _ (by rfl) _ (by rfl) (by rfl) HI5.out HT5.out hdl2 ?_
          intro t6 X6 h6
          obtain ⟨ya, yc, hye, -, -⟩ := ownTys_form h6.2.2.1
          have hyf : t6 = .slice ya (D.length + 1) yc := by rw [hye]; simp
          subst hyf
          have s06 := h6.1.1
          have s16 := h6.1.2.1
          have f6 := h6.1.2.2.2
          have HE6 : Hid _ := say_done HI5.out.nv hsb' HI5.out.vn hi64 h6
          refine hK.out _ _ (HBX.out _ HE6.out.2.1) (fun hHeld => ?_)
          clear hK K hye h6
          refine wpAnyH_take (i := 16) (v := ?_) rfl (by kernel_rfl) (by kernel_rfl) (by kernel_rfl) (fun _ _ _ h => h) (Or.inl ⟨by rfl, ?_⟩) (by assumption) ?_
          rotate_left
          · (intro w hSw; (try dsimp only at hSw); go_simp); all_goals (with_reducible rfl)
          simp only [List.getElem_toArray, List.getElem_cons_succ, List.getElem_cons_zero, Act.put, List.setIfInBounds_toArray, List.set_cons_zero, List.set_cons_succ]
          refine wpAnyH_take (i := 17) (v := ?_) rfl (by kernel_rfl) (by kernel_rfl) (by kernel_rfl) (fun _ _ _ h => h) (Or.inl ⟨by rfl, ?_⟩) (by assumption) ?_
          rotate_left
          · (intro w hSw; (try dsimp only at hSw); go_simp); all_goals (with_reducible rfl)
          simp only [List.getElem_toArray, List.getElem_cons_succ, List.getElem_cons_zero, Act.put, List.setIfInBounds_toArray, List.set_cons_zero, List.set_cons_succ]
          refine wpAnyH_ready (rs := [18]) (by kernel_rfl) (by simp) (AllReadyH.cons rfl (fun K hK => ?_) AllReadyH.nil)
          go_simp
          refine hK.out _ _ (HBX.out _ HE6.out.2.2.1) (fun hHeld => ?_)
          clear hK K
          refine wpAnyH_take (i := 19) (v := ?_) rfl (by kernel_rfl) (by kernel_rfl) (by kernel_rfl) (fun _ _ _ h => h) (Or.inl ⟨by rfl, ?_⟩) (by assumption) ?_
          rotate_left
          · (intro w hSw; (try dsimp only at hSw); go_simp); all_goals (with_reducible rfl)
          simp only [List.getElem_toArray, List.getElem_cons_succ, List.getElem_cons_zero, Act.put, List.setIfInBounds_toArray, List.set_cons_zero, List.set_cons_succ]
          refine wpAnyH_take (i := 20) (v := ?_) rfl (by kernel_rfl) (by kernel_rfl) (by kernel_rfl) (fun _ _ _ h => h) (Or.inl ⟨by rfl, ?_⟩) (by assumption) ?_
          rotate_left
          · (intro w hSw; (try dsimp only at hSw); go_simp); all_goals (with_reducible rfl)
          simp only [List.getElem_toArray, List.getElem_cons_succ, List.getElem_cons_zero, Act.put, List.setIfInBounds_toArray, List.set_cons_zero, List.set_cons_succ]
          refine wpAnyH_ready (rs := [21]) (by kernel_rfl) (by simp) (AllReadyH.cons rfl (fun K hK => ?_) AllReadyH.nil)
          go_simp
          refine hK.out _ _ (HBX.out _ HE6.out.2.2.2) (fun hHeld => ?_)
          clear hK K
          refine wpAnyH_done (by kernel_rfl) ?_ _
          go_wp2_with fail
          go_ret
          exact .inr ⟨HR.out, rfl, HFIN.out _ _ _ HE6.out.1⟩
        ·
          go_simp
          refine hK.out _ _ (HBX.out _ ((HI0.out.alloc (.cells #[.string (Em.str op), .int .i64 tn, .slice a tl.length cap] 25)).alloc (.cells #[.int .i64 n] 3)).blk) (fun hHeld => ?_)
          clear hK K
          refine wpAnyH_ready (rs := [5]) (by kernel_rfl) (by simp) (AllReadyH.cons rfl (fun K hK => ?_) AllReadyH.nil)
          have hcc := ((HI0.out.alloc (.cells #[.string (Em.str op), .int .i64 tn, .slice a tl.length cap] 25)).alloc (.cells #[.int .i64 n] 3)).c0
          go_simp
          refine hK.out _ _ (HBX.out _ ((HI0.out.alloc (.cells #[.string (Em.str op), .int .i64 tn, .slice a tl.length cap] 25)).alloc (.cells #[.int .i64 n] 3)).blk) (fun hHeld => ?_)
          clear hK K hcc
          refine wpAnyH_ready (rs := [8]) (by kernel_rfl) (by simp) (AllReadyH.cons rfl (fun K hK => ?_) AllReadyH.nil)
          refine step_sayV (w := w2) (by rfl) _ _ (by rfl) n _ (by rfl) (by rfl) ((HI0.out.alloc (.cells #[.string (Em.str op), .int .i64 tn, .slice a tl.length cap] 25)).alloc (.cells #[.int .i64 n] 3)) (by simp [go_sem]) hdl1 ?_
          intro v5 X5 hI5 hg5
          obtain ⟨xa, xc, hxe⟩ := hI5.own.form
          have hxf : v5 = .slice xa (D.length + 1) xc := by rw [hxe]; simp
          subst hxf
          have HI5 : Hid (SayI w2 X5 B Z sb (.slice va D.length vc) (.slice ta D.length tc) (.slice xa (D.length + 1) xc) (.slice ta D.length tc) (D.map (·.1) ++ [n]) (D.map (·.2)) N T (.agg #[.string (Em.str op), .int .i64 tn, .slice a tl.length cap])) := hI5
          have HT5 : Hid (X5.cell? ⟨w2.heap.size, 0, none⟩ = some (.string (Em.str op)) ∧ X5.cell? ⟨w2.heap.size, 1, none⟩ = some (.int .i64 tn) ∧ X5.cell? ⟨w2.heap.size, 2, none⟩ = some (.slice a tl.length cap)) := ⟨hg5.cell (by simp [go_sem]) HVN0.out, hg5.cell (by simp [go_sem]) HVN0.out, hg5.cell (by simp [go_sem]) HVN0.out⟩
          refine hK.out _ _ (HBX.out _ hI5.blk) (fun hHeld => ?_)
          clear hK K hxe hI5 hg5
          refine wpAnyH_ready (rs := [15]) (by kernel_rfl) (by simp) (AllReadyH.cons rfl (fun K hK => ?_) AllReadyH.nil)
          refine step_sayT (w := w2) (by rfl) _ _ (by rfl) _ (by rfl) (by rfl) HI5.out HT5.out hdl2 ?_
          intro t6 X6 h6
          obtain ⟨ya, yc, hye, -, -⟩ := ownTys_form h6.2.2.1
          have hyf : t6 = .slice ya (D.length + 1) yc := by rw [hye]; simp
          subst hyf
          have s06 := h6.1.1
          have s16 := h6.1.2.1
          have f6 := h6.1.2.2.2
          have HE6 : Hid _ := say_done HI5.out.nv hsb' HI5.out.vn hi64 h6
          refine hK.out _ _ (HBX.out _ HE6.out.2.1) (fun hHeld => ?_)
          clear hK K hye h6
          refine wpAnyH_take (i := 16) (v := ?_) rfl (by kernel_rfl) (by kernel_rfl) (by kernel_rfl) (fun _ _ _ h => h) (Or.inl ⟨by rfl, ?_⟩) (by assumption) ?_
          rotate_left
          · (intro w hSw; (try dsimp only at hSw); go_simp); all_goals (with_reducible rfl)
          simp only [List.getElem_toArray, List.getElem_cons_succ, List.getElem_cons_zero, Act.put, List.setIfInBounds_toArray, List.set_cons_zero, List.set_cons_succ]
          refine wpAnyH_take (i := 17) (v := ?_) rfl (by kernel_rfl) (by kernel_rfl) (by kernel_rfl) (fun _ _ _ h => h) (Or.inl ⟨by rfl, ?_⟩) (by assumption) ?_
          rotate_left
          · (intro w hSw; (try dsimp only at hSw); go_simp); all_goals (with_reducible rfl)
          simp only [List.getElem_toArray, List.getElem_cons_succ, List.getElem_cons_zero, Act.put, List.setIfInBounds_toArray, List.set_cons_zero, List.set_cons_succ]
          refine wpAnyH_ready (rs := [18]) (by kernel_rfl) (by simp) (AllReadyH.cons rfl (fun K hK => ?_) AllReadyH.nil)
          go_simp
          refine hK.out _ _ (HBX.out _ HE6.out.2.2.1) (fun hHeld => ?_)
          clear hK K
          refine wpAnyH_take (i := 19) (v := ?_) rfl (by kernel_rfl) (by kernel_rfl) (by kernel_rfl) (fun _ _ _ h => h) (Or.inl ⟨by rfl, ?_⟩) (by assumption) ?_
          rotate_left
          · (intro w hSw; (try dsimp only at hSw); go_simp); all_goals (with_reducible rfl)
          simp only [List.getElem_toArray, List.getElem_cons_succ, List.getElem_cons_zero, Act.put, List.setIfInBounds_toArray, List.set_cons_zero, List.set_cons_succ]
          refine wpAnyH_take (i := 20) (v := ?_) rfl (by kernel_rfl) (by kernel_rfl) (by kernel_rfl) (fun _ _ _ h => h) (Or.inl ⟨by rfl, ?_⟩) (by assumption) ?_
          rotate_left
          · (intro w hSw; (try dsimp only at hSw); go_simp); all_goals (with_reducible rfl)
          simp only [List.getElem_toArray, List.getElem_cons_succ, List.getElem_cons_zero, Act.put, List.setIfInBounds_toArray, List.set_cons_zero, List.set_cons_succ]
          refine wpAnyH_ready (rs := [21]) (by kernel_rfl) (by simp) (AllReadyH.cons rfl (fun K hK => ?_) AllReadyH.nil)
          go_simp
          refine hK.out _ _ (HBX.out _ HE6.out.2.2.2) (fun hHeld => ?_)
          clear hK K
          refine wpAnyH_done (by kernel_rfl) ?_ _
          go_wp2_with fail
          go_ret
          exact .inr ⟨HR.out, rfl, HFIN.out _ _ _ HE6.out.1⟩
end Go.Proofs.Ytadhjnbhcenocaa

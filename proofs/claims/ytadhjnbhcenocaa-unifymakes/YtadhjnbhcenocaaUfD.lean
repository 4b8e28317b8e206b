/- What 'makeOne' of an attempt does (package unify). -/
import Derived.Test.YtadhjnbhcenocaaUfC
import Derived.Test.YtadhjnbhcenocaaRTypC
import Derived.Deep.LoopGhost
import Derived.LaidEqlPtr
import Derived.Deep.RegionLaw
namespace Go.Proofs.Ytadhjnbhcenocaa
open Go.RowKit Go.Em8 Go.Em9
set_option linter.unusedSimpArgs false
set_option linter.unusedVariables false

def pairV (p : Nat × Nat) : Value × Value := (.pointer (some ⟨p.1, 0, none⟩), .pointer (some ⟨p.2, 0, none⟩))
/-- What holds while makeOne is about: pv is the row of the pairs that are left. -/
structure MkI (w wr : World) (K : Nat → Prop) (F : Fo) (E0 : Nat → Nat) (cm sn : Nat → Int) (B sb ab : Nat) (N : Int) (vv jv0 : Value) (Vl : List Int) (x0 y0 : Nat)
    (S : List (Nat × Nat)) (J : List Nat) (is : Nat → Option Nat) (E D : Nat → Nat) (jv : Value) : Prop where
  tms : Tms wr K F is cm sn
  att : Att wr B sb ab N vv jv Vl J
  leads : Leads F.L is E D
  joins : Joins F E0 E S J x0 y0
  sepA : ∀ k, AttOf ab vv jv k → k ∉ F.L ∧ ¬ K k
  kept : Kept (fun k => k ∈ F.L ∨ AttOf ab vv jv0 k) w wr
  jrow : jv.ownBlock = jv0.ownBlock ∨ ∃ g, jv.ownBlock = some g ∧ w.heap.size ≤ g
  jis : ∀ j ∈ J, ∃ c ∈ F.L, is j = some c
  jnd : J.Nodup
  count : J.length + ends F E ≤ F.L.length
  left : S.length ≤ 1 + 2 * J.length
/-- The row of the pairs. -/
structure PvI (w wr : World) (ab : Nat) (vv jv : Value) (pv : Value) (S : List (Nat × Nat)) : Prop where
  rows : OwnTwo 67 wr w.heap.size pv (S.map pairV)
  sep : ∀ k, some k = pv.ownBlock → ¬ AttOf ab vv jv k

theorem teach_two {F : Fo} (hF : FoOk F) {b : Nat} (hb : b ∈ F.L) : (F.ks b).length ≤ 2 := by
  have h := hF.teach b hb
  have e : (F.ks b).length = (F.ty b).kids.length := by rw [← hF.tys b hb, List.length_map]
  have e2 : F.ty b = .mk (F.ty b).op (F.ty b).n (F.ty b).kids := by cases F.ty b; rfl
  rw [e2] at h
  simp only [Em8.teach, Bool.and_eq_true, decide_eq_true_eq] at h
  have h1 := h.1
  unfold tkids at h1
  split at h1
  · omega
  · split at h1
    · omega
    · split at h1 <;> omega

theorem infoTm : (Try.prog.info? 66).map (·.size) = some 7 := by kernel_rfl
theorem ptr_eq (w : World) (b : Nat) : (binOp .eql 57 (.pointer (some ⟨b, 0, none⟩)) (.pointer (some ⟨b, 0, none⟩))).run Try.prog w = .ok (.bool true) w := by
  obtain ⟨j, hj, -⟩ := Option.map_eq_some_iff.1 infoTm
  exact run_eql_ptr_same w ⟨b, 0, none⟩ Try.underlying57 hj
theorem ptr_ne {w : World} {K : Nat → Prop} {F : Fo} {is : Nat → Option Nat} {cm sn : Nat → Int} (hT : Tms w K F is cm sn) {a b : Nat} (ha : a ∈ F.L) (hb : b ∈ F.L) (hn : a ≠ b) : (binOp .eql 57 (.pointer (some ⟨a, 0, none⟩)) (.pointer (some ⟨b, 0, none⟩))).run Try.prog w = .ok (.bool false) w := by
  obtain ⟨j, hj, hs⟩ := Option.map_eq_some_iff.1 infoTm
  obtain ⟨_, _, _, h1, -⟩ := (hT a ha).2
  obtain ⟨_, _, _, h2, -⟩ := (hT b hb).2
  exact run_eql_ptr_other w Try.underlying57 hj (by rw [hs]; decide) (fun e => hn (by injection e)) h1 h2
section
variable {w wr wr' : World} {K : Nat → Prop} {F : Fo} {E0 : Nat → Nat} {cm sn : Nat → Int} {B sb ab : Nat} {N : Int} {vv jv0 : Value} {Vl : List Int} {x0 y0 : Nat} {S : List (Nat × Nat)} {J : List Nat} {is : Nat → Option Nat} {E D : Nat → Nat} {jv pv : Value}
theorem MkI.dr (h : MkI w wr K F E0 cm sn B sb ab N vv jv0 Vl x0 y0 S J is E D jv) (n : Nat) : MkI w (wr.drewN n) K F E0 cm sn B sb ab N vv jv0 Vl x0 y0 S J is E D jv :=
  ⟨h.tms.dr n, h.att.below (below_drewN (Below.refl _ _) n), h.leads, h.joins, h.sepA, h.kept.drewN n, h.jrow, h.jis, h.jnd, h.count, h.left⟩
theorem PvI.dr (h : PvI w wr ab vv jv pv S) (n : Nat) : PvI w (wr.drewN n) ab vv jv pv S := ⟨h.rows.below (below_drewN (Below.refl _ _) n), h.sep⟩
/-- The row of the pairs has grown. -/
theorem MkI.grew {pv2 : Value} {S3 : List (Nat × Nat)} (h : MkI w wr K F E0 cm sn B sb ab N vv jv0 Vl x0 y0 S J is E D jv) (hp : PvI w wr ab vv jv pv S3) (hF : ∀ b ∈ F.L, b < w.heap.size) (hK : ∀ k, K k → k < w.heap.size) (hg : Grew wr wr' pv pv2) : MkI w wr' K F E0 cm sn B sb ab N vv jv0 Vl x0 y0 S J is E D jv := by
  have kp : Kept (fun k => some k = pv.ownBlock) wr wr' := (Kept.refl _ wr).grown hg.1 fun b _ e => e.symm
  refine ⟨h.tms.turn kp (fun b hb e => ?_) (fun b hb e => ?_), h.att.turn kp fun b hb e => hp.sep b e hb, h.leads, h.joins, h.sepA, h.kept.trans kp fun b hb e => ?_, h.jrow, h.jis, h.jnd, h.count, h.left⟩
  · have := (hp.rows.lt e).1; have := hF b hb; omega
  · have := (hp.rows.lt e).1; have := hK b hb; omega
  · have := (hp.rows.lt e).1; omega
theorem PvI.grew {pv2 : Value} {S2 S3 : List (Nat × Nat)} (h : MkI w wr K F E0 cm sn B sb ab N vv jv0 Vl x0 y0 S J is E D jv) (hp : PvI w wr ab vv jv pv S3) (hg : Grew wr wr' pv pv2) (ho : OwnTwo 67 wr' w.heap.size pv2 (S2.map pairV)) : PvI w wr' ab vv jv pv2 S2 := by
  refine ⟨ho, fun k hk hA => ?_⟩
  rcases hg.2 with e | ⟨q, e, hq⟩
  · exact hp.sep k (by rw [← e]; exact hk) hA
  · have h1 := (h.att.lt hA).2
    rw [e] at hk; cases hk; omega
theorem PvI.pop {a : Option Addr} {c n m : Nat} {p : Nat × Nat} (hp : PvI w wr ab vv jv (.slice a n c) (S ++ [p])) (hm : m = S.length) : PvI w wr ab vv jv (.slice a m c) S := by
  refine ⟨?_, fun k hk => hp.sep k (by cases a <;> exact hk)⟩
  have h := hp.rows
  rw [List.map_append] at h
  exact h.pop (by rw [hm, List.length_map])
/-- The two were one. -/
theorem MkI.same {p q : Nat} (h : MkI w wr K F E0 cm sn B sb ab N vv jv0 Vl x0 y0 (S ++ [(p, q)]) J is E D jv) (e : E p = E q) : MkI w wr K F E0 cm sn B sb ab N vv jv0 Vl x0 y0 S J is E D jv :=
  ⟨h.tms, h.att, h.leads, h.joins.same e, h.sepA, h.kept, h.jrow, h.jis, h.jnd, h.count, by have := h.left; simp only [List.length_append, List.length_cons, List.length_nil] at this; omega⟩
/-- The two were joined. -/
theorem MkI.join {p q x y : Nat} {jv' : Value} {Nw : List (Nat × Nat)} (hF : FoOk F) (hFl : ∀ b ∈ F.L, b < w.heap.size) (hKl : ∀ k, K k → k < w.heap.size) (h : MkI w wr K F E0 cm sn B sb ab N vv jv0 Vl x0 y0 (S ++ [(p, q)]) J is E D jv) (hne : E p ≠ E q)
    (hj : Joined wr wr' K F is cm sn B sb ab N vv jv Vl J (E p) (E q) x y jv') (hk : (F.var x ∧ Nw = []) ∨ (¬ F.var x ∧ ¬ F.var y ∧ (F.ty x).op = (F.ty y).op ∧ (F.ty x).n = (F.ty y).n ∧ (F.ks x).length = (F.ks y).length ∧ (Nw = (F.ks x).zip (F.ks y) ∨ Nw = (F.ks y).zip (F.ks x)))) :
    (∃ D', MkI w wr' K F E0 cm sn B sb ab N vv jv0 Vl x0 y0 (S ++ Nw) (J ++ [x]) (upd is x (some y)) (joinE E x y) D' jv') ∧ ends F (joinE E x y) < ends F E ∧ Nw.length ≤ 2 := by
  obtain ⟨j1, j2, j3, j4, j5, j6⟩ := h.joins.join hF hj.which.1 hne hk
  have hlt := ends_join (F := F) j2 j3 j4 j5
  have hN : Nw.length ≤ 2 := by
    have h1 := teach_two hF j5
    have h2 := teach_two hF j6
    rcases hk with ⟨-, rfl⟩ | ⟨-, -, -, -, -, rfl | rfl⟩
    · simp
    · rw [List.length_zip]; omega
    · rw [List.length_zip]; omega
  have hisx := h.leads.end_ j5 j2
  have hc := h.count
  have hl := h.left
  simp only [List.length_append, List.length_cons, List.length_nil] at hl
  refine ⟨⟨_, hj.tms, hj.att, h.leads.join j2 j3 j4 j6 h.joins.ends.idem, j1, fun k hk2 => ?_, h.kept.trans hj.kept fun b hb e => ?_, ?_, fun j hjm => ?_, ?_, ?_, ?_⟩, hlt, hN⟩
  · rcases hk2 with rfl | e | e
    · exact h.sepA _ (.inl rfl)
    · exact h.sepA _ (.inr (.inl e))
    · rcases hj.row with e2 | ⟨g, e2, hg⟩
      · exact h.sepA _ (.inr (.inr (by rw [← e2]; exact e)))
      · rw [e2] at e; cases e
        refine ⟨fun hm => ?_, fun hm => ?_⟩
        · have := hFl _ hm; have := h.kept.size; omega
        · have := hKl _ hm; have := h.kept.size; omega
  · rcases e with rfl | rfl | rfl | e
    · rcases hj.which.1 with ⟨e1, -⟩ | ⟨-, e1⟩
      · rw [← e1]; exact .inl j5
      · rw [← e1]; exact .inl j6
    · rcases hj.which.1 with ⟨-, e1⟩ | ⟨e1, -⟩
      · rw [← e1]; exact .inl j6
      · rw [← e1]; exact .inl j5
    · exact .inr (.inl rfl)
    · rcases h.jrow with e2 | ⟨g, e2, hg⟩
      · exact .inr (.inr (.inr (by rw [← e2]; exact e)))
      · rw [e2] at e; cases e; omega
  · rcases hj.row with e2 | ⟨g, e2, hg⟩
    · rw [e2]; exact h.jrow
    · exact .inr ⟨g, e2, Nat.le_trans h.kept.size hg⟩
  · rcases List.mem_append.1 hjm with hjm | hjm
    · by_cases e : j = x
      · subst e; exact ⟨y, j6, upd_same _ _ _⟩
      · rw [upd_else _ _ e]; exact h.jis j hjm
    · simp only [List.mem_singleton] at hjm
      subst hjm; exact ⟨y, j6, upd_same _ _ _⟩
  · rw [List.nodup_append]
    refine ⟨h.jnd, by simp, fun a ha b hb e => ?_⟩
    simp only [List.mem_singleton] at hb
    subst hb; subst e
    obtain ⟨c, -, hc2⟩ := h.jis a ha
    rw [hisx] at hc2; cases hc2
  · simp only [List.length_append, List.length_cons, List.length_nil]; omega
  · simp only [List.length_append, List.length_cons, List.length_nil]; omega
end
theorem nil_or_snoc {α : Type} (l : List α) : l = [] ∨ ∃ l' a, l = l' ++ [a] := by
  rcases List.eq_nil_or_concat l with h | ⟨l', a, h⟩
  · exact .inl h
  · exact .inr ⟨l', a, by rw [h, List.concat_eq_append]⟩
set_option maxRecDepth 100000 in
set_option maxHeartbeats 8000000 in
/-- 'a.makeOne(x, y)'. -/
theorem umake_any {w : World} {K : Nat → Prop} {F : Fo} {is0 : Nat → Option Nat} {cm sn : Nat → Int} {E0 D0 : Nat → Nat} (hF : FoOk F) (hC : Cong F E0) (hE : EndOk F E0) (hT : Tms w K F is0 cm sn) (hL : Leads F.L is0 E0 D0) {B sb ab : Nat} {N : Int} {vv jv0 : Value} {Vl : List Int} (hA : Att w B sb ab N vv jv0 Vl [])
    (hs : ∀ k, AttOf ab vv jv0 k → k ∉ F.L ∧ ¬ K k) (hK : ∀ k, K k → k < w.heap.size) {x0 y0 : Nat} (hx : x0 ∈ F.L) (hy : y0 ∈ F.L) (hB : B ≤ w.heap.size) (hn : F.L.length ≤ 100000) :
    Calls Try.prog 28 #[.pointer (some ⟨ab, 0, none⟩), .pointer (some ⟨x0, 0, none⟩), .pointer (some ⟨y0, 0, none⟩)] w fun e w' => ∃ S J is E D jv, MkI w w' K F E0 cm sn B sb ab N vv jv0 Vl x0 y0 S J is E D jv ∧
      ((e = .returned (.bool false) ∧ ∀ t, ¬ (Sol F E0 t ∧ tsub t (F.ty x0) = tsub t (F.ty y0))) ∨ (e = .returned (.bool true) ∧ S = [])) := by
  have HF : Hid (FoOk F ∧ (∀ k, K k → k < w.heap.size) ∧ x0 ∈ F.L ∧ y0 ∈ F.L) := ⟨hF, hK, hx, hy⟩
  obtain ⟨W, hW⟩ : ∃ W, W = w.alloc (.cells #[.pointer (some ⟨x0, 0, none⟩), .pointer (some ⟨y0, 0, none⟩)] 67) := ⟨_, rfl⟩
  have hbW : Below w.heap.size w W := by rw [hW]; exact (Below.refl _ _).alloc (Nat.le_refl _) _
  have HI0 : Hid (MkI w W K F E0 cm sn B sb ab N vv jv0 Vl x0 y0 [(x0, y0)] [] is0 E0 D0 jv0) :=
    ⟨hT.below hbW, hA.below hbW, hL, Joins.start hE hC hx hy, hs, Kept.of hbW, .inl rfl, by simp, List.nodup_nil, by simpa [ends] using List.length_filter_le _ _, by simp⟩
  have HP0 : Hid (PvI w W ab vv jv0 (.slice (some ⟨w.heap.size, 0, none⟩) 1 1) [(x0, y0)]) := ⟨by rw [hW]; exact ownTwo_lit _ w _ _ rfl, fun k hk h => by have h1 := (hA.lt h).2; injection hk with hk; simp only at hk; omega⟩
  have HWE : Hid (w.alloc (.cells #[.pointer (some ⟨x0, 0, none⟩), .pointer (some ⟨y0, 0, none⟩)] 67) = W) := hW.symm
  have HBB : Hid (B ≤ w.heap.size ∧ F.L.length ≤ 100000) := ⟨hB, hn⟩
  have HFLW : Hid (∀ b ∈ F.L, b < w.heap.size) := fun b hb => hT.lt hb
  clear hF hC hE hT hL hA hs hK hx hy hW hbW
  go_enter Try.func28, Try.ntmps28
  go_wp2_with fail
  rw [HWE.out]
  go_loopg [7] (ends F E0 * 4 + 1) (fun k pv wr => ∃ S J is E D jv, Hid (MkI w wr K F E0 cm sn B sb ab N vv jv0 Vl x0 y0 S J is E D jv) ∧ Hid (PvI w wr ab vv jv pv S) ∧ Hid (k = ends F E * 4 + S.length))
  case atStart => exact ⟨_, _, _, _, _, _, HI0, HP0, rfl⟩
  case round =>
    obtain ⟨S, J, is, E, D, jv, HI, HP, HK⟩ := hrel
    clear HI0 HP0 HWE
    obtain ⟨pa, pc, hpe⟩ := HP.out.rows.form
    rw [List.length_map] at hpe
    rcases nil_or_snoc S with hS | ⟨S', ⟨p, q⟩, hS⟩
    · subst hS
      subst hpe
      simp only [List.length_nil]
      go_wp2_with fail
      go_ret
      exact ⟨_, _, _, _, _, _, HI.out, .inr ⟨rfl, rfl⟩⟩
    · subst hS
      subst hpe
      simp only [List.length_append, List.length_cons, List.length_nil, Nat.zero_add] at HP ⊢
      obtain ⟨n, hn⟩ : ∃ n, n = S'.length := ⟨_, rfl⟩
      obtain ⟨-, -, -, hget⟩ := HP.out.rows.get
      obtain ⟨g, rfl, hg1, hg2, hcell⟩ := hget (by simp)
      obtain ⟨k0, k1⟩ := hcell n (pairV (p, q)) (by rw [List.map_append, List.getElem?_append_right (by simp [hn])]; simp [hn])
      simp only [pairV] at k0 k1
      rw [← hn] at HP ⊢
      have hnB : n ≤ 300000 := by
        have h1 := HI.out.left
        have h2 := HI.out.count
        have h3 := HBB.out.2
        simp only [List.length_append, List.length_cons, List.length_nil] at h1
        omega
      have HN : Hid (n = S'.length) := hn
      clear hn
      have hl1 : ((n : Int) + 1 - 1) = (n : Int) := by omega
      have hl2 : (0 : Int) ≤ (n : Int) := by omega
      have hl3 : (n : Int) < (n : Int) + 1 := by omega
      obtain ⟨hp, hq⟩ := HI.out.joins.mem (p, q) (by simp)
      have HEP : Hid (∀ m, Calls Try.prog 37 #[.pointer (some ⟨p, 0, none⟩)] (wr.drewN m) fun e w' => e = .returned (.pointer (some ⟨E p, 0, none⟩)) ∧ w' = wr.drewN m) := fun m => uend_any (HI.out.tms.dr m) HI.out.leads hp
      have HEQ : Hid (∀ m, Calls Try.prog 37 #[.pointer (some ⟨q, 0, none⟩)] (wr.drewN m) fun e w' => e = .returned (.pointer (some ⟨E q, 0, none⟩)) ∧ w' = wr.drewN m) := fun m => uend_any (HI.out.tms.dr m) HI.out.leads hq
      have hpc : n + 1 ≤ pc := by
        have := HP.out.rows.get.2.1
        rw [List.length_map, List.length_append, List.length_cons, List.length_nil] at this
        have := HN.out
        omega
      have hpc2 : (n : Int) ≤ (pc : Int) := by omega
      have HFL : Hid ((∀ b ∈ F.L, b < w.heap.size) ∧ E p ∈ F.L ∧ E q ∈ F.L) := ⟨HFLW.out, HI.out.joins.ends.mem p hp, HI.out.joins.ends.mem q hq⟩
      obtain ⟨X, hX⟩ : ∃ X, X = E p := ⟨_, rfl⟩
      obtain ⟨Y, hY⟩ : ∃ Y, Y = E q := ⟨_, rfl⟩
      rw [← hX] at HEP HFL
      rw [← hY] at HEQ HFL
      have HXY : Hid (X = E p ∧ Y = E q) := ⟨hX, hY⟩
      clear hp hq hcell hget hX hY
      go_wp2_with fail
      go_quiet ((go_at_call 37; with_reducible (first | exact Calls.quiet_of_same (HEP.out _) | exact Calls.quiet_of_same (HEQ.out _))))
      obtain ⟨V, hV⟩ : ∃ V, V = wr.drewN nq := ⟨_, rfl⟩
      rw [← hV]
      have HI2 : Hid (MkI w V K F E0 cm sn B sb ab N vv jv0 Vl x0 y0 (S' ++ [(p, q)]) J is E D jv) := by rw [hV]; exact HI.out.dr nq
      have HP2 : Hid (PvI w V ab vv jv (.slice (some ⟨g, 0, none⟩) n pc) S') := by rw [hV]; exact (HP.out.dr nq).pop HN.out
      clear hV HP HI k0 k1 HEP HEQ
      by_cases hxy : X = Y
      · have HEE : Hid (E p = E q) := by rw [Hid, ← HXY.out.1, ← HXY.out.2]; exact hxy
        subst hxy
        have hpe := ptr_eq V X
        go_wp2_with fail
        go_roundg (ends F E * 4 + S'.length)
        case measure => rw [HK.out]; simp
        case rel => exact ⟨_, _, _, _, _, _, HI2.out.same HEE.out, HP2, rfl⟩
      · have HXN : Hid (X ≠ Y) := hxy
        have hpe := ptr_ne HI2.out.tms HFL.out.2.1 HFL.out.2.2 hxy
        clear hxy
        obtain ⟨bx, hbx⟩ : ∃ b, b = decide (F.var X) := ⟨_, rfl⟩
        obtain ⟨by_, hby⟩ : ∃ b, b = decide (F.var Y) := ⟨_, rfl⟩
        have HVX : Hid (Calls Try.prog 38 #[.pointer (some ⟨X, 0, none⟩)] V fun e w' => e = .returned (.bool bx) ∧ w' = V) := by rw [Hid, hbx]; exact uvar_any HF.out.1 HI2.out.tms HFL.out.2.1
        have HVY : Hid (Calls Try.prog 38 #[.pointer (some ⟨Y, 0, none⟩)] V fun e w' => e = .returned (.bool by_) ∧ w' = V) := by rw [Hid, hby]; exact uvar_any HF.out.1 HI2.out.tms HFL.out.2.2
        have HJOIN : Hid (∀ V', MkI w V' K F E0 cm sn B sb ab N vv jv0 Vl x0 y0 (S' ++ [(p, q)]) J is E D jv → Calls Try.prog 39 #[.pointer (some ⟨ab, 0, none⟩), .pointer (some ⟨X, 0, none⟩), .pointer (some ⟨Y, 0, none⟩)] V' fun e w' => e = .returned (.tuple #[]) ∧ ∃ x' y' jv', Joined V' w' K F is cm sn B sb ab N vv jv Vl J X Y x' y' jv') := fun V' h =>
          ujoin_any HF.out.1 h.tms h.att h.sepA HFL.out.2.1 HFL.out.2.2 HXN.out (by have := h.count; have := HBB.out.2; omega) (Nat.le_trans HBB.out.1 h.kept.size)
        have HEND : Hid (∀ V' w5 pv2 (Nw : List (Nat × Nat)) x' y' jv', MkI w V' K F E0 cm sn B sb ab N vv jv0 Vl x0 y0 (S' ++ [(p, q)]) J is E D jv → PvI w V' ab vv jv pv2 (S' ++ Nw) → Joined V' w5 K F is cm sn B sb ab N vv jv Vl J X Y x' y' jv' →
            ((F.var x' ∧ Nw = []) ∨ (¬ F.var x' ∧ ¬ F.var y' ∧ (F.ty x').op = (F.ty y').op ∧ (F.ty x').n = (F.ty y').n ∧ (F.ks x').length = (F.ks y').length ∧ (Nw = (F.ks x').zip (F.ks y') ∨ Nw = (F.ks y').zip (F.ks x')))) →
            ∃ kk S2 J2 is2 E2 D2 jv2, kk < gk ∧ MkI w w5 K F E0 cm sn B sb ab N vv jv0 Vl x0 y0 S2 J2 is2 E2 D2 jv2 ∧ PvI w w5 ab vv jv2 pv2 S2 ∧ kk = ends F E2 * 4 + S2.length) := by
          intro V' w5 pv2 Nw x' y' jv' h1 h2 h3 h4
          have hne : E p ≠ E q := by rw [← HXY.out.1, ← HXY.out.2]; exact HXN.out
          rw [HXY.out.1, HXY.out.2] at h3
          obtain ⟨⟨D', g1⟩, g2, g3⟩ := h1.join HF.out.1 HFL.out.1 HF.out.2.1 hne h3 h4
          refine ⟨_, _, _, _, _, _, _, ?_, g1, ⟨h2.rows.keep fun b hb => h3.kept.block b (h2.rows.lt hb).2 fun e => ?_, fun k hk e => ?_⟩, rfl⟩
          · rw [HK.out]; simp only [List.length_append, List.length_cons, List.length_nil]; omega
          · have hb1 := (h2.rows.lt hb).1
            rcases e with e | e | e | e
            · have := HFL.out.1 _ HFL.out.2.1; rw [HXY.out.1] at this; omega
            · have := HFL.out.1 _ HFL.out.2.2; rw [HXY.out.2] at this; omega
            · exact h2.sep b hb (.inl e)
            · exact h2.sep b hb (.inr (.inr e))
          · rcases e with e | e | e
            · exact h2.sep k hk (.inl e)
            · exact h2.sep k hk (.inr (.inl e))
            · rcases h3.row with e2 | ⟨q2, e2, hq2⟩
              · exact h2.sep k hk (.inr (.inr (by rw [← e2]; exact e)))
              · rw [e2] at e; cases e
                have := (h2.rows.lt hk).2; omega
        have HBV : Hid (bx = decide (F.var X) ∧ by_ = decide (F.var Y)) := ⟨hbx, hby⟩
        clear hbx hby
        have HVAR : Hid (bx = true ∨ by_ = true → ∀ V' w5 x' y' jv', MkI w V' K F E0 cm sn B sb ab N vv jv0 Vl x0 y0 (S' ++ [(p, q)]) J is E D jv → Joined V' w5 K F is cm sn B sb ab N vv jv Vl J X Y x' y' jv' → F.var x') := by
          intro hv V' w5 x' y' jv' _ hj
          rcases hj.which.2 with h | ⟨h1, h2⟩
          · exact h
          · have g1 := HBV.out.1
            have g2 := HBV.out.2
            rw [decide_eq_false h1] at g1
            rw [decide_eq_false h2] at g2
            subst g1 g2
            simp at hv
        cases bx
        · cases by_
          · have HNV : Hid (¬ F.var X ∧ ¬ F.var Y) := ⟨of_decide_eq_false HBV.out.1.symm, of_decide_eq_false HBV.out.2.symm⟩
            obtain ⟨xa, xc, -, x0c, x1c, x2c, -, -, -, -, -, xk⟩ := (HI2.out.tms X HFL.out.2.1).2.cells
            obtain ⟨ya, yc, -, y0c, y1c, y2c, -, -, -, -, -, yk⟩ := (HI2.out.tms Y HFL.out.2.2).2.cells
            obtain ⟨-, -, -, -, -, xt, xi⟩ := (HI2.out.tms X HFL.out.2.1).2
            obtain ⟨-, -, -, -, -, yt, yi⟩ := (HI2.out.tms Y HFL.out.2.2).2
            have hq := tstr_beq xt yt
            have HKX : Hid (IsPtrs V K xa xc (F.ks X) ∧ IsPtrs V K ya yc (F.ks Y)) := ⟨xk, yk⟩
            have hlx : (F.ks X).length ≤ 2 := teach_two HF.out.1 HFL.out.2.1
            have hly : (F.ks Y).length ≤ 2 := teach_two HF.out.1 HFL.out.2.2
            have HNE : Hid ((F.ty X).op ≠ (F.ty Y).op ∨ (F.ty X).n ≠ (F.ty Y).n ∨ (F.ks X).length ≠ (F.ks Y).length → ∀ t, ¬ (Sol F E0 t ∧ tsub t (F.ty x0) = tsub t (F.ty y0))) := by
              intro hd
              rw [HXY.out.1, HXY.out.2] at hd
              have h1 := HNV.out.1
              have h2 := HNV.out.2
              rw [HXY.out.1] at h1
              rw [HXY.out.2] at h2
              exact HI2.out.joins.never HF.out.1 h1 h2 hd
            have HOX : Hid ((F.ty X).op = (F.ty X).op) := rfl
            obtain ⟨ox, hox⟩ : ∃ o, o = (F.ty X).op := ⟨_, rfl⟩
            obtain ⟨oy, hoy⟩ : ∃ o, o = (F.ty Y).op := ⟨_, rfl⟩
            obtain ⟨nx, hnx⟩ : ∃ o, o = (F.ty X).n := ⟨_, rfl⟩
            obtain ⟨ny, hny⟩ : ∃ o, o = (F.ty Y).n := ⟨_, rfl⟩
            obtain ⟨lx, hlx'⟩ : ∃ o, o = (F.ks X).length := ⟨_, rfl⟩
            obtain ⟨ly, hly'⟩ : ∃ o, o = (F.ks Y).length := ⟨_, rfl⟩
            have HEQS : Hid (ox = (F.ty X).op ∧ oy = (F.ty Y).op ∧ nx = (F.ty X).n ∧ ny = (F.ty Y).n ∧ lx = (F.ks X).length ∧ ly = (F.ks Y).length) := ⟨hox, hoy, hnx, hny, hlx', hly'⟩
            rw [← hox] at x0c HNE hq
            rw [← hoy] at y0c HNE hq
            rw [← hnx] at x1c HNE
            rw [← hny] at y1c HNE
            rw [← hlx'] at x2c HNE hlx
            rw [← hly'] at y2c HNE hly
            clear hox hoy hnx hny hlx' hly' xk yk xt xi yt yi
            go_wp2_with (go_at_call 38; refine Calls.mono (by with_reducible (first | exact HVX.out | exact HVY.out)) ?_; rintro e w' ⟨rfl, hw'⟩; rw [hw']; clear hw')
            clear HVX HVY hpe
            by_cases e1 : ox = oy
            case neg =>
              have HRES := HNE.out (.inl e1)
              have HRES : Hid (∀ t, ¬ (Sol F E0 t ∧ tsub t (F.ty x0) = tsub t (F.ty y0))) := HRES
              rw [decide_eq_false e1] at hq
              clear e1
              go_wp2_with fail
              go_quiet (fail)
              go_wp2
              go_ret
              exact ⟨_, _, _, _, _, _, HI2.out.dr _, .inl ⟨rfl, HRES.out⟩⟩
            have HO1 : Hid (ox = oy) := e1
            rw [decide_eq_true e1] at hq
            clear e1
            by_cases e2 : nx = ny
            case neg =>
              have HRES := HNE.out (.inr (.inl e2))
              have HRES : Hid (∀ t, ¬ (Sol F E0 t ∧ tsub t (F.ty x0) = tsub t (F.ty y0))) := HRES
              have q5 : (nx == ny) = false := by rw [beq_eq_false_iff_ne]; exact e2
              have q5' : (nx != ny) = true := by rw [bne, q5]; rfl
              clear e2
              go_wp2_with fail
              go_quiet (fail)
              go_wp2
              go_ret
              exact ⟨_, _, _, _, _, _, HI2.out.dr _, .inl ⟨rfl, HRES.out⟩⟩
            have HN1 : Hid (nx = ny) := e2
            have q5 : (nx == ny) = true := by rw [beq_iff_eq]; exact e2
            have q5' : (nx != ny) = false := by rw [bne, q5]; rfl
            clear e2
            by_cases e3 : lx = ly
            case neg =>
              have HRES := HNE.out (.inr (.inr e3))
              have HRES : Hid (∀ t, ¬ (Sol F E0 t ∧ tsub t (F.ty x0) = tsub t (F.ty y0))) := HRES
              have q6 : ((lx : Int) == (ly : Int)) = false := by rw [beq_eq_false_iff_ne]; omega
              have q6' : ((lx : Int) != (ly : Int)) = true := by rw [bne, q6]; rfl
              clear e3
              go_wp2_with fail
              go_quiet (fail)
              go_wp2
              go_ret
              exact ⟨_, _, _, _, _, _, HI2.out.dr _, .inl ⟨rfl, HRES.out⟩⟩
            have HL1 : Hid (lx = ly) := e3
            have q6 : ((lx : Int) == (ly : Int)) = true := by rw [beq_iff_eq]; omega
            have q6' : ((lx : Int) != (ly : Int)) = false := by rw [bne, q6]; rfl
            clear e3
            go_wp2_with fail
            go_quiet (fail)
            go_wp2_with fail
            obtain ⟨U, hU⟩ : ∃ U, U = V.drewN nq := ⟨_, rfl⟩
            rw [← hU]
            have HI3 : Hid (MkI w U K F E0 cm sn B sb ab N vv jv0 Vl x0 y0 (S' ++ [(p, q)]) J is E D jv) := by rw [hU]; exact HI2.out.dr nq
            have HP3 : Hid (PvI w U ab vv jv (.slice (some ⟨g, 0, none⟩) n pc) S') := by rw [hU]; exact HP2.out.dr nq
            have HKU : Hid (IsPtrs U K xa xc (F.ks X) ∧ IsPtrs U K ya yc (F.ks Y)) := by rw [hU]; exact HKX.out
            have HCU : Hid (U.cell? ⟨X, 2, none⟩ = some (.slice xa lx xc) ∧ U.cell? ⟨Y, 2, none⟩ = some (.slice ya ly yc)) := by rw [hU]; exact ⟨x2c, y2c⟩
            clear hU x0c x1c x2c y0c y1c y2c hq q5 q5' q6 q6' HKX HI2 HP2
            go_loopw [7, 86] (fun pv i wr2 => ∃ (j : Nat), j ≤ lx ∧ i = .int .i64 j ∧ Hid (OwnTwo 67 wr2 w.heap.size pv ((S' ++ ((F.ks X).zip (F.ks Y)).take j).map pairV) ∧ Grew U wr2 (.slice (some ⟨g, 0, none⟩) n pc) pv)) (fun _ i _ => lx - (intOf i).toNat)
            case atStart => exact ⟨0, Nat.zero_le _, rfl, by rw [List.take_zero, List.append_nil]; exact HP3.out.rows, Grew.of_below (Below.refl _ _)⟩
            case round =>
              obtain ⟨j, hj, rfl, HR⟩ := hrel
              obtain ⟨pa2, pc2, hpe2⟩ := HR.out.1.form
              obtain ⟨m, hm⟩ : ∃ m, m = ((S' ++ ((F.ks X).zip (F.ks Y)).take j).map pairV).length := ⟨_, rfl⟩
              rw [← hm] at hpe2
              have hgz := HP3.out.rows
              have far : ∀ k o, k < w.heap.size → wr.cell? ⟨k, o, none⟩ = U.cell? ⟨k, o, none⟩ := fun k o hk => World.cell?_of_block (w := U) (a := ⟨k, o, none⟩) (HR.out.2.1.block k (Nat.lt_of_lt_of_le hk HI3.out.kept.size) fun e => by have := (hgz.lt e).1; omega)
              have x2 := HCU.out.1
              have y2 := HCU.out.2
              rw [← far X 2 (HFL.out.1 _ HFL.out.2.1)] at x2
              rw [← far Y 2 (HFL.out.1 _ HFL.out.2.2)] at y2
              by_cases hlt : j < lx
              · obtain ⟨h1, h2, h3, h4, h5, h6⟩ := HEQS.out
                obtain ⟨kx, hkx⟩ : ∃ k, (F.ks X)[j]? = some k := ⟨_, List.getElem?_eq_getElem (by omega)⟩
                obtain ⟨ky, hky⟩ : ∃ k, (F.ks Y)[j]? = some k := ⟨_, List.getElem?_eq_getElem (by have := HL1.out; omega)⟩
                obtain ⟨bx', rfl, hbx1, hbx2, hcx⟩ := HKU.out.1.2.2 (by omega)
                obtain ⟨by', rfl, hby1, hby2, hcy⟩ := HKU.out.2.2.2 (by have := HL1.out; omega)
                have cx := hcx j kx hkx
                have cy := hcy j ky hky
                rw [← far _ _ (HF.out.2.1 _ hbx2)] at cx
                rw [← far _ _ (HF.out.2.1 _ hby2)] at cy
                have HNX : Hid ((S' ++ ((F.ks X).zip (F.ks Y)).take (j + 1)).map pairV = (S' ++ ((F.ks X).zip (F.ks Y)).take j).map pairV ++ [pairV (kx, ky)]) := by
                  have hz : ((F.ks X).zip (F.ks Y))[j]? = some (kx, ky) := by rw [List.getElem?_zip_eq_some]; exact ⟨hkx, hky⟩
                  have hjl := (List.getElem?_eq_some_iff.1 hz).1
                  rw [Hid, List.take_succ_eq_append_getElem hjl, (List.getElem?_eq_some_iff.1 hz).2]
                  simp
                have HM : Hid (m = ((S' ++ ((F.ks X).zip (F.ks Y)).take j).map pairV).length) := hm
                have hml : m ≤ 1000000 := by
                  rw [hm, List.length_map, List.length_append, List.length_take]
                  have := HN.out
                  omega
                have HJL : Hid (j < ly) := by have := HL1.out; rw [Hid]; omega
                have hj0 : (0 : Int) ≤ (j : Int) := by omega
                have hjl : (j : Int) < (lx : Int) := by omega
                have hjl' : (j : Int) < (ly : Int) := by have := HJL.out; omega
                have hBz : w.heap.size ≤ wr.heap.size := Nat.le_trans HI3.out.kept.size HR.out.2.1.size
                clear h1 h2 h3 h4 h5 h6 hkx hky hcx hcy far hgz hm
                subst hpe2
                go_wp2_with fail
                go_region_law (refine step_app_two twoPairs (w := wr.drew) (by rfl) _ _ (by rfl) w.heap.size _ ((S' ++ ((F.ks X).zip (F.ks Y)).take j).map pairV) (by rfl) (HR.out.1.below (Below.refl _ _).drew) _ _ (by rfl) (by rfl) _ (by first | rfl | simp) (by rfl) (by rw [← HM.out]; exact hml) hBz ?_; intro v4 w4 o4 hg4; obtain ⟨va4, vc4, hv4⟩ := o4.form; rw [List.length_append, ← HM.out, List.length_cons, List.length_nil] at hv4; subst hv4; have HS4 : Hid (OwnTwo 67 w4 w.heap.size (.slice va4 (m + (0 + 1)) vc4) ((S' ++ ((F.ks X).zip (F.ks Y)).take j).map pairV ++ [pairV (kx, ky)]) ∧ Grew wr.drew w4 (.slice pa2 m pc2) (.slice va4 (m + (0 + 1)) vc4)) := ⟨o4, hg4⟩; clear o4 hg4)
                all_goals
                  go_wp2
                  go_roundw
                  case rel => exact ⟨j + 1, by omega, by go_num, by rw [HNX.out]; exact HS4.out.1, HR.out.2.trans ((Grew.of_below (Below.refl _ _).drew).trans HS4.out.2)⟩
                  case measure => simp [intOf]; omega
              · have hje : j = lx := by omega
                have hZ : ((F.ks X).zip (F.ks Y)).take j = (F.ks X).zip (F.ks Y) := by
                  obtain ⟨h1, h2, h3, h4, h5, h6⟩ := HEQS.out
                  rw [List.take_of_length_le]
                  rw [List.length_zip]; omega
                have HI4 : Hid (MkI w wr K F E0 cm sn B sb ab N vv jv0 Vl x0 y0 (S' ++ [(p, q)]) J is E D jv) := HI3.out.grew HP3.out HFL.out.1 HF.out.2.1 HR.out.2
                have HP4 : Hid (PvI w wr ab vv jv (.slice pa2 m pc2) (S' ++ (F.ks X).zip (F.ks Y))) := by
                  rw [← hpe2]
                  refine PvI.grew HI3.out HP3.out HR.out.2 ?_
                  have h := HR.out.1
                  rwa [hZ] at h
                clear hZ hm far hgz x2 y2
                subst hpe2
                go_wp2_with (go_at_call 39; refine (HJOIN.out _ HI4.out).mono ?_; rintro e w5 ⟨rfl, x', y', jv', HJ0⟩; have HJ5 : Hid _ := HJ0; clear HJ0)
                have HWH : Hid ((¬ F.var x' ∧ ¬ F.var y' ∧ (F.ty x').op = (F.ty y').op ∧ (F.ty x').n = (F.ty y').n ∧ (F.ks x').length = (F.ks y').length ∧ ((F.ks X).zip (F.ks Y) = (F.ks x').zip (F.ks y') ∨ (F.ks X).zip (F.ks Y) = (F.ks y').zip (F.ks x')))) := by
                  obtain ⟨h1, h2, h3, h4, h5, h6⟩ := HEQS.out
                  have g1 := HO1.out
                  have g2 := HN1.out
                  have g3 := HL1.out
                  rw [h1, h2] at g1
                  rw [h3, h4] at g2
                  rw [h5, h6] at g3
                  rcases HJ5.out.which.1 with ⟨e1, e2⟩ | ⟨e1, e2⟩
                  · rw [e1, e2]; exact ⟨HNV.out.1, HNV.out.2, g1, g2, g3, .inl rfl⟩
                  · rw [e1, e2]; exact ⟨HNV.out.2, HNV.out.1, g1.symm, g2.symm, g3.symm, .inr rfl⟩
                obtain ⟨kk, S2, J2, is2, E2, D2, jv2, f1, f2, f3, f4⟩ := HEND.out wr w5 _ ((F.ks X).zip (F.ks Y)) x' y' jv' HI4.out HP4.out HJ5.out (.inr HWH.out)
                go_roundg kk
                case measure => exact f1
                case rel => exact ⟨_, _, _, _, _, _, f2, f3, f4⟩
          · go_wp2_with (first
              | (go_at_call 38; refine Calls.mono (by with_reducible (first | exact HVX.out | exact HVY.out)) ?_; rintro e w' ⟨rfl, hw'⟩; rw [hw']; clear hw')
              | (go_at_call 39; refine (HJOIN.out _ HI2.out).mono ?_; rintro e w5 ⟨rfl, x', y', jv', HJ0⟩; have HJ5 : Hid _ := HJ0; clear HJ0))
            obtain ⟨kk, S2, J2, is2, E2, D2, jv2, f1, f2, f3, f4⟩ := HEND.out V w5 _ [] x' y' jv' HI2.out (by rw [List.append_nil]; exact HP2.out) HJ5.out (.inl ⟨HVAR.out (.inr trivial) _ _ _ _ _ HI2.out HJ5.out, rfl⟩)
            go_roundg kk
            case measure => exact f1
            case rel => exact ⟨_, _, _, _, _, _, f2, f3, f4⟩
        · go_wp2_with (first
            | (go_at_call 38; refine Calls.mono (by with_reducible (first | exact HVX.out | exact HVY.out)) ?_; rintro e w' ⟨rfl, hw'⟩; rw [hw']; clear hw')
            | (go_at_call 39; refine (HJOIN.out _ HI2.out).mono ?_; rintro e w5 ⟨rfl, x', y', jv', HJ0⟩; have HJ5 : Hid _ := HJ0; clear HJ0))
          obtain ⟨kk, S2, J2, is2, E2, D2, jv2, f1, f2, f3, f4⟩ := HEND.out V w5 _ [] x' y' jv' HI2.out (by rw [List.append_nil]; exact HP2.out) HJ5.out (.inl ⟨HVAR.out (.inl trivial) _ _ _ _ _ HI2.out HJ5.out, rfl⟩)
          go_roundg kk
          case measure => exact f1
          case rel => exact ⟨_, _, _, _, _, _, f2, f3, f4⟩
end Go.Proofs.Ytadhjnbhcenocaa

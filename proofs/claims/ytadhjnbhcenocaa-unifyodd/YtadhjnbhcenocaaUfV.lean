/- What 'told' of a term answers (package unify). -/
import Derived.Test.YtadhjnbhcenocaaUfT
import Derived.Test.YtadhjnbhcenocaaRTypP
namespace Go.Proofs.Ytadhjnbhcenocaa
open Go.RowKit Go.Em8 Go.Em9
set_option linter.unusedSimpArgs false
set_option linter.unusedVariables false

theorem infoTy9 : (Try.prog.info? 25).map (fun i => (i.zero, i.size, i.bytes)) = some (some (.agg #[.string ⟨#[]⟩, .int .i64 0, .slice none 0 0]), 3, 48) := by kernel_rfl
theorem run_make_ty (n : Nat) (hn : n ≤ 2) (w : World) : Sem.run Try.prog (Instr.makeSlice 23 (.int .i64 (n : Int)) (.int .i64 (n : Int))) w = .ok (.slice (some ⟨w.heap.size, 0, none⟩) n n) (w.alloc (.cells (madeCells #[.string ⟨#[]⟩, .int .i64 0, .slice none 0 0] (n * 3)) 25)) := by
  obtain ⟨i0, hi, hz0, hz1, hz2⟩ := info_parts infoTy9
  have h := run_make (P := Try.prog) w 23 25 i0 _ Try.underlying23 hi hz0 .i64 .i64 n n (by omega) (Int.le_refl _) (by rw [hz2]; omega) (by omega)
  simp only [Int.toNat_natCast] at h
  rw [hz1] at h
  exact h
theorem madeTy (n i : Nat) (hi : i < n) : (madeCells #[.string ⟨#[]⟩, .int .i64 0, .slice none 0 0] (n * 3))[i * 3]? = some (Value.string ⟨#[]⟩) ∧ (madeCells #[.string ⟨#[]⟩, .int .i64 0, .slice none 0 0] (n * 3))[i * 3 + 1]? = some (Value.int .i64 0) ∧ (madeCells #[.string ⟨#[]⟩, .int .i64 0, .slice none 0 0] (n * 3))[i * 3 + 2]? = some (Value.slice none 0 0) := by
  have key : ∀ j, j < n * 3 → (madeCells #[.string ⟨#[]⟩, .int .i64 0, .slice none 0 0] (n * 3))[j]? = some ((#[.string ⟨#[]⟩, .int .i64 0, .slice none 0 0] : Array Value)[j % 3]!) := fun j hj => by
    simp [madeCells, hj]
  refine ⟨?_, ?_, ?_⟩
  · rw [key _ (by omega), show i * 3 % 3 = 0 by omega]; rfl
  · rw [key _ (by omega), show (i * 3 + 1) % 3 = 1 by omega]; rfl
  · rw [key _ (by omega), show (i * 3 + 2) % 3 = 2 by omega]; rfl

/-- A hole's op and number were written: what is known then. -/
structure Two (wr Y : World) (b off : Nat) (op : List Int) (n : Int) : Prop where
  kept : Kept (fun k => k = b) wr Y
  lt : wr.heap.size < Y.heap.size
  c0 : Y.cell? ⟨b, off, none⟩ = some (.string (Em.str op))
  c1 : Y.cell? ⟨b, off + 1, none⟩ = some (.int .i64 n)
  c2 : Y.cell? ⟨b, off + 2, none⟩ = some (.slice none 0 0)
  cell : ∀ o, o ≠ off → o ≠ off + 1 → o ≠ off + 2 → Y.cell? ⟨b, o, none⟩ = wr.cell? ⟨b, o, none⟩
  fz : ∀ o, Y.frozen? ⟨b, o, none⟩ = wr.frozen? ⟨b, o, none⟩
  box : Y.cell? ⟨wr.heap.size, 0, none⟩ = some (.pointer (some ⟨b, off, none⟩))
theorem two_mk {wr W Y : World} {b off : Nat} {op : List Int} {n : Int} {c : Value} (hW : W = wr.alloc (.cells #[.pointer (some ⟨b, off, none⟩), c] 79)) (hY : Y = ((W.setCell ⟨b, off, none⟩ (.string (Em.str op))).setCell ⟨b, off + 1, none⟩ (.int .i64 n)).drew) (hb : b < wr.heap.size) (hz : ZeroAt wr b off) : Two wr Y b off op n := by
  have bW : Below wr.heap.size wr W := by rw [hW]; exact (Below.refl _ _).alloc (Nat.le_refl _) _
  obtain ⟨z0, z1, z2, z3⟩ := hz
  have keyb : ∀ o, W.cell? ⟨b, o, none⟩ = wr.cell? ⟨b, o, none⟩ := fun o => bW.cell (p := ⟨b, o, none⟩) hb
  rw [← keyb] at z0 z1 z2
  have hYc : ∀ p, Y.cell? p = ((W.setCell ⟨b, off, none⟩ (.string (Em.str op))).setCell ⟨b, off + 1, none⟩ (.int .i64 n)).cell? p := fun p => by rw [hY]; rfl
  have ne : ∀ o o' : Nat, o ≠ o' → (⟨b, o, none⟩ : Addr) ≠ ⟨b, o', none⟩ := fun o o' h e => h (by injection e)
  have nb : (⟨wr.heap.size, 0, none⟩ : Addr) ≠ ⟨b, off, none⟩ ∧ (⟨wr.heap.size, 0, none⟩ : Addr) ≠ ⟨b, off + 1, none⟩ := ⟨fun e => by injection e with e; omega, fun e => by injection e with e; omega⟩
  refine ⟨?_, ?_, ?_, ?_, ?_, fun o h0 h1 h2 => ?_, fun o => ?_, ?_⟩
  · rw [hY]
    exact (((Kept.of (Q := fun k => k = b) bW).set b off _ fun _ => rfl).set b (off + 1) _ fun _ => rfl).drew
  · rw [hY, hW]; simp
  · rw [hYc, World.cell?_setCell_other _ _ _ _ (ne _ _ (by omega))]
    exact World.cell?_setCell_same _ _ _ z0
  · rw [hYc]
    exact World.cell?_setCell_same _ _ _ (by rw [World.cell?_setCell_other _ _ _ _ (ne _ _ (by omega))]; exact z1)
  · rw [hYc, World.cell?_setCell_other _ _ _ _ (ne _ _ (by omega)), World.cell?_setCell_other _ _ _ _ (ne _ _ (by omega))]; exact z2
  · rw [hYc, World.cell?_setCell_other _ _ _ _ (ne _ _ (by omega)), World.cell?_setCell_other _ _ _ _ (ne _ _ (by omega))]; exact keyb o
  · rw [hY]
    show ((W.setCell ⟨b, off, none⟩ _).setCell ⟨b, off + 1, none⟩ _).frozen? ⟨b, o, none⟩ = _
    rw [World.frozen?_setCell, World.frozen?_setCell]
    exact bW.frozen (p := ⟨b, o, none⟩) hb
  · rw [hYc, World.cell?_setCell_other _ _ _ _ (fun e => nb.2 e.symm), World.cell?_setCell_other _ _ _ _ (fun e => nb.1 e.symm), hW]
    simp
theorem Two.mid0 {wr Y : World} {b off : Nat} {op : List Int} {n : Int} (h : Two wr Y b off op n) (kb : Nat) : Mid wr Y b off op n 0 kb :=
  ⟨h.kept, h.lt, h.c0, h.c1, h.c2, h.cell, h.fz, fun hp => by omega, h.box⟩
theorem Two.mid {wr Y Z : World} {b off lx : Nat} {op : List Int} {n : Int} (h : Two wr Y b off op n) (hb : b < wr.heap.size) (hx : 0 < lx) (hZ : Z = ((Y.alloc (.cells (madeCells #[.string ⟨#[]⟩, .int .i64 0, .slice none 0 0] (lx * 3)) 25)).setCell ⟨b, off + 2, none⟩ (.slice (some ⟨Y.heap.size, 0, none⟩) lx lx)).drew) : Mid wr Z b off op n lx Y.heap.size := by
  obtain ⟨A, hA⟩ : ∃ A, A = Y.alloc (.cells (madeCells #[.string ⟨#[]⟩, .int .i64 0, .slice none 0 0] (lx * 3)) 25) := ⟨_, rfl⟩
  rw [← hA] at hZ
  have bA : Below Y.heap.size Y A := by rw [hA]; exact (Below.refl _ _).alloc (Nat.le_refl _) _
  have hbY : b < Y.heap.size := Nat.lt_trans hb h.lt
  have keyA : ∀ k o, k < Y.heap.size → A.cell? ⟨k, o, none⟩ = Y.cell? ⟨k, o, none⟩ := fun k o hk => bA.cell (p := ⟨k, o, none⟩) hk
  have hZc : ∀ p, Z.cell? p = (A.setCell ⟨b, off + 2, none⟩ (.slice (some ⟨Y.heap.size, 0, none⟩) lx lx)).cell? p := fun p => by rw [hZ]; rfl
  have ne : ∀ o o' : Nat, o ≠ o' → (⟨b, o, none⟩ : Addr) ≠ ⟨b, o', none⟩ := fun o o' h e => h (by injection e)
  have hzA : A.heap.size = Y.heap.size + 1 := by rw [hA]; simp
  have hblk : A.heap[Y.heap.size]? = some (.cells (madeCells #[.string ⟨#[]⟩, .int .i64 0, .slice none 0 0] (lx * 3)) 25 (0, 0)) := by rw [hA]; exact heap_alloc_new Y _
  have hZb : Z.heap[Y.heap.size]? = A.heap[Y.heap.size]? := by
    rw [hZ]
    exact Below.heap_setCell _ _ _ _ (by simp; omega)
  refine ⟨?_, ?_, ?_, ?_, ?_, fun o h0 h1 h2 => ?_, fun o => ?_, fun _ => ⟨h.lt, ?_, fun i hi => ?_⟩, ?_⟩
  · rw [hZ]
    exact ((h.kept.trans (Q' := fun k => k = b) (Kept.of bA) fun _ _ e => e).set b (off + 2) _ fun _ => rfl).drew
  · rw [hZ]
    show wr.heap.size < (A.setCell ⟨b, off + 2, none⟩ _).heap.size
    rw [World.size_setCell]
    have := h.lt; omega
  · rw [hZc, World.cell?_setCell_other _ _ _ _ (ne _ _ (by omega)), keyA b _ hbY]; exact h.c0
  · rw [hZc, World.cell?_setCell_other _ _ _ _ (ne _ _ (by omega)), keyA b _ hbY]; exact h.c1
  · rw [hZc, if_neg (by omega)]
    exact World.cell?_setCell_same _ _ _ (by rw [keyA b _ hbY]; exact h.c2)
  · rw [hZc, World.cell?_setCell_other _ _ _ _ (ne _ _ (by omega)), keyA b _ hbY]; exact h.cell o h0 h1 h2
  · rw [hZ]
    show (A.setCell ⟨b, off + 2, none⟩ _).frozen? ⟨b, o, none⟩ = _
    rw [World.frozen?_setCell, bA.frozen (p := ⟨b, o, none⟩) hbY]; exact h.fz o
  · rw [hZ]
    show _ < (A.setCell ⟨b, off + 2, none⟩ _).heap.size
    rw [World.size_setCell]; omega
  · rw [hblk] at hZb
    obtain ⟨m0, m1, m2⟩ := madeTy lx i hi
    exact ⟨by simp [World.cell?, hZb, m0], by simp [World.cell?, hZb, m1], by simp [World.cell?, hZb, m2], fun o => by simp [World.frozen?, hZb]⟩
  · rw [hZc, World.cell?_setCell_other _ _ _ _ (fun e => by injection e with e; omega), keyA _ _ h.lt]; exact h.box

/-- How much is left to be told. -/
def muT (T : Nat → Ty) (H : List Hole) : Nat := (H.map fun h => (T h.2).size).sum
theorem muT_app (T : Nat → Ty) (H K : List Hole) : muT T (H ++ K) = muT T H + muT T K := by simp [muT]
theorem muT_new (T : Nat → Ty) (kb : Nat) (ks : List Nat) : muT T (newHoles kb ks) = tsizes (ks.map T) := by
  have h : ∀ (l : List Nat) (m : List Nat), l.length = m.length → (((l.zip m).map fun p => ((kb, p.1 * 3), p.2)).map fun h : Hole => (T h.2).size).sum = tsizes (m.map T) := by
    intro l
    induction l with
    | nil => intro m hm; cases m with | nil => rfl | cons => simp at hm
    | cons a l ih =>
      intro m hm
      cases m with
      | nil => simp at hm
      | cons b m =>
        simp only [List.zip_cons_cons, List.map_cons, List.sum_cons, tsizes]
        rw [ih m (by simpa using hm)]
  exact h (List.range ks.length) ks (by simp)

set_option maxRecDepth 100000 in
set_option maxHeartbeats 8000000 in
/-- 'x.told()'. -/
theorem utold_any {w : World} {K : Nat → Prop} {F : Fo} {is : Nat → Option Nat} {cm sn : Nat → Int} {E D : Nat → Nat} {T : Nat → Ty} (hF : FoOk F) (hE : EndOk F E) (hT : TOk F E T) (hTm : Tms w K F is cm sn) (hL : Leads F.L is E D) (hK : ∀ k, K k → k < w.heap.size) (hn : F.L.length ≤ 100000) {x0 : Nat} (hx : x0 ∈ F.L) :
    Calls Try.prog 33 #[.pointer (some ⟨x0, 0, none⟩)] w fun e w' => ∃ u, e = .returned u ∧ IsTyP (fun k => w.heap.size ≤ k) w' (T x0) u ∧ Below w.heap.size w w' := by
  obtain ⟨R, hR, hRL⟩ := hT.rank hF hE
  have HF : Hid (FoOk F ∧ EndOk F E ∧ TOk F E T ∧ Leads F.L is E D ∧ Ranked F E R) := ⟨hF, hE, hT, hL, hR⟩
  have HTM : Hid (Tms w K F is cm sn ∧ (∀ k, K k → k < w.heap.size) ∧ (∀ b ∈ F.L, b < w.heap.size) ∧ (∀ y ∈ F.L, Em5.Txt (F.ty y).op ∧ Em5.I64 (F.ty y).n) ∧ F.L.length ≤ 100000 ∧ ∀ b, R b ≤ F.L.length) :=
    ⟨hTm, hK, fun b hb => hTm.lt hb, fun y hy => by obtain ⟨-, -, -, -, -, h⟩ := (hTm y hy).2; exact h, hn, hRL⟩
  obtain ⟨W, hW⟩ : ∃ W, W = (w.alloc (.cells #[.string ⟨#[]⟩, .int .i64 0, .slice none 0 0] 25)).alloc (.cells #[.string ⟨#[]⟩, .int .i64 0, .slice none 0 0] 25) := ⟨_, rfl⟩
  obtain ⟨V, hV⟩ : ∃ V, V = W.alloc (.cells #[.pointer (some ⟨w.heap.size + 1, 0, none⟩), .pointer (some ⟨x0, 0, none⟩)] 79) := ⟨_, rfl⟩
  have zW : W.heap.size = w.heap.size + 2 := by rw [hW]; simp
  have bW : Below w.heap.size w W := by rw [hW]; exact ((Below.refl _ _).alloc (Nat.le_refl _) _).alloc (by simp) _
  have bV : Below W.heap.size W V := by rw [hV]; exact (Below.refl _ _).alloc (Nat.le_refl _) _
  have zero1 : ZeroAt W (w.heap.size + 1) 0 := by rw [hW]; exact ⟨by simp, by simp, by simp, fun o => by simp [go_sem]⟩
  have HI0 : Hid (TdI w V F T R (R x0) x0 (w.heap.size + 1) (.slice (some ⟨W.heap.size, 0, none⟩) 1 1) [((w.heap.size + 1, 0), x0)]) := by
    have hzv : w.heap.size + 1 < V.heap.size := by have := bV.size; omega
    have hz : ZeroAt V (w.heap.size + 1) 0 := by
      obtain ⟨z0, z1, z2, z3⟩ := zero1
      have key : ∀ o, V.cell? ⟨w.heap.size + 1, o, none⟩ = W.cell? ⟨w.heap.size + 1, o, none⟩ := fun o => bV.cell (p := ⟨w.heap.size + 1, o, none⟩) (by simp only; omega)
      exact ⟨by rw [key]; exact z0, by rw [key]; exact z1, by rw [key]; exact z2, fun o => by rw [bV.frozen (p := ⟨w.heap.size + 1, o, none⟩) (by simp only; omega)]; exact z3 o⟩
    have hne : some (w.heap.size + 1) ≠ (Value.slice (some ⟨W.heap.size, 0, none⟩) 1 1).ownBlock := by
      intro e; injection e with e; simp only at e; omega
    refine ⟨bW.trans (bV.mono bW.size), ?_, ?_, fun h hh => ?_, by simp, fun i h hi => ?_⟩
    · obtain ⟨op, n, l, e⟩ : ∃ op n l, T x0 = .mk op n l := by cases h : T x0; exact ⟨_, _, _, rfl⟩
      rw [e]
      unfold Sit
      exact ⟨Nat.le_refl _, hzv, hne, rfl, .inl ⟨x0, by simp, e⟩⟩
    · have h := ownTwo_lit 79 W (.pointer (some ⟨w.heap.size + 1, 0, none⟩)) (.pointer (some ⟨x0, 0, none⟩)) (g := W.heap.size) rfl
      rw [← hV] at h
      exact ⟨h.1, h.2.elim .inl fun ⟨g, c, cur, e1, e2, e3⟩ => .inr ⟨g, c, cur, e1, by omega, e3⟩⟩
    · simp only [List.mem_singleton] at hh
      subst hh
      exact ⟨Nat.le_refl _, hzv, rfl, hx, hz, hne⟩
    · match i, hi with
      | 0, hi => simp at hi; subst hi; simp
  have HWE : Hid ((w.alloc (.cells #[.string ⟨#[]⟩, .int .i64 0, .slice none 0 0] 25)).alloc (.cells #[.string ⟨#[]⟩, .int .i64 0, .slice none 0 0] 25) = W ∧ W.alloc (.cells #[.pointer (some ⟨w.heap.size + 1, 0, none⟩), .pointer (some ⟨x0, 0, none⟩)] 79) = V) := ⟨hW.symm, hV.symm⟩
  clear hF hE hT hTm hL hK hn hx hR hRL hW hV zW bW bV zero1
  go_enter Try.func33, Try.ntmps33
  go_upto_region 2 with fail
  rw [HWE.out.1]
  go_upto_block 0 with fail
  rw [HWE.out.2]
  have HZ0 : Hid (ZeroAt V w.heap.size 0) := by
    obtain ⟨e1, e2⟩ := HWE.out
    rw [Hid, ← e2, ← e1]
    exact ⟨by simp [go_sem], by simp [go_sem], by simp [go_sem], fun o => by simp [go_sem]⟩
  clear HWE
  go_wp2_with fail
  go_loopg [4] (muT T [((w.heap.size + 1, 0), x0)]) (fun k pv wr => ∃ H, Hid (TdI w wr F T R (R x0) x0 (w.heap.size + 1) pv H) ∧ Hid (k = muT T H) ∧ Hid (ZeroAt wr w.heap.size 0))
  case atStart => exact ⟨_, HI0, rfl, HZ0⟩
  case round =>
    obtain ⟨H, HI, HKK, HZ⟩ := hrel
    clear HI0 HZ0
    obtain ⟨pa, pc, hpe⟩ := HI.out.rows.form
    rw [List.length_map] at hpe
    rcases nil_or_snoc H with hS | ⟨H', ⟨⟨b, off⟩, x⟩, hS⟩
    · subst hS
      subst hpe
      simp only [List.length_nil]
      obtain ⟨c0, c1, c2, k0, k1, k2, kt⟩ := sit_is _ _ _ HI.out.sit
      obtain ⟨z0, z1, z2, z3⟩ := HZ.out
      have HR : Hid (IsTyP (fun k => w.heap.size + 1 ≤ k) wr (T x0) (.agg #[c0, c1, c2])) := kt
      obtain ⟨op, n, a, kk, cap, hform⟩ := isTyP_form kt
      simp only [Value.agg.injEq, Array.mk.injEq, List.cons.injEq, and_true] at hform
      obtain ⟨rfl, rfl, rfl⟩ := hform
      clear kt
      go_wp2_with fail
      refine bodyPost_ret (v := .agg #[.string op, .int .i64 n, .slice a kk cap]) (by simp [results, Try.results33, go_sem, z0, z1, z2]) rfl ⟨_, rfl, ?_, ?_⟩
      · refine isTyP_keep (by simp) (fun q hp hl => ⟨?_, by omega⟩) _ _ HR.out
        have hne : ¬ q = w.heap.size := by omega
        rw [Below.heap_setCell _ _ _ _ (by simp; exact hne), Below.heap_setCell _ _ _ _ (by simp; exact hne), Below.heap_setCell _ _ _ _ (by simp; exact hne)]
      · exact below_set3 (g := w.heap.size) HI.out.bel (Nat.le_refl _) _ _ _
    · subst hS
      subst hpe
      simp only [List.length_append, List.length_cons, List.length_nil, Nat.zero_add] at HI ⊢
      obtain ⟨m, hm⟩ : ∃ m, m = H'.length := ⟨_, rfl⟩
      obtain ⟨-, hpc1, -, hget⟩ := HI.out.rows.get
      obtain ⟨g, rfl, hg1, hg2, hcell⟩ := hget (by simp)
      obtain ⟨k0, k1⟩ := hcell m (copV ((b, off), x)) (by rw [List.map_append, List.getElem?_append_right (by simp [hm])]; simp [hm])
      simp only [copV] at k0 k1
      rw [← hm] at HI ⊢
      have hmB : m ≤ 100000 := by
        have h1 := HI.out.rank m ((b, off), x) (by rw [List.getElem?_append_right (by omega)]; simp [hm])
        have h2 := HTM.out.2.2.2.2.2 x0
        have h3 := HTM.out.2.2.2.2.1
        omega
      have hpc : m + 1 ≤ pc := by
        rw [List.length_map, List.length_append, List.length_cons, List.length_nil] at hpc1
        omega
      have HMM : Hid (m = H'.length) := hm
      have hl1 : ((m : Int) + 1 - 1) = (m : Int) := by omega
      have hl2 : (0 : Int) ≤ (m : Int) := by omega
      have hl3 : (m : Int) < (m : Int) + 1 := by omega
      have hpc2 : (m : Int) ≤ (pc : Int) := by omega
      obtain ⟨q1, q2, q3, q4, ⟨z0, z1, z2, z3⟩, q6⟩ := HI.out.holes ((b, off), x) (by simp)
      simp only at q1 q2 q3 q4 z0 z1 z2 z3 q6
      have HQ : Hid (w.heap.size + 1 ≤ b ∧ b < wr.heap.size ∧ off % 3 = 0 ∧ x ∈ F.L) := ⟨q1, q2, q3, q4⟩
      obtain ⟨W, hW⟩ : ∃ W, W = wr.alloc (.cells #[.pointer (some ⟨b, off, none⟩), .pointer (some ⟨x, 0, none⟩)] 79) := ⟨_, rfl⟩
      have bW : Below wr.heap.size wr W := by rw [hW]; exact (Below.refl _ _).alloc (Nat.le_refl _) _
      have bwW := HI.out.bel.trans (bW.mono HI.out.bel.size)
      have v0 : W.cell? ⟨wr.heap.size, 0, none⟩ = some (.pointer (some ⟨b, off, none⟩)) := by rw [hW]; simp
      have v1 : W.cell? ⟨wr.heap.size, 1, none⟩ = some (.pointer (some ⟨x, 0, none⟩)) := by rw [hW]; simp
      have zW : W.heap.size = wr.heap.size + 1 := by rw [hW]; simp
      have tW : Tms W K F is cm sn := HTM.out.1.below bwW
      have HEP := uend_any tW HF.out.2.2.2.1 q4
      obtain ⟨X, hX⟩ : ∃ X, X = E x := ⟨_, rfl⟩
      have hXL : X ∈ F.L := by rw [hX]; exact HF.out.2.1.mem x q4
      rw [← hX] at HEP
      have HXE : Hid (X = E x ∧ X ∈ F.L) := ⟨hX, hXL⟩
      obtain ⟨xa, xc, xs, x0c, x1c, x2c, -, -, -, -, -, xk⟩ := (tW X hXL).2.cells
      have keyb : ∀ o, W.cell? ⟨b, o, none⟩ = wr.cell? ⟨b, o, none⟩ := fun o => bW.cell (p := ⟨b, o, none⟩) q2
      have fW : ∀ o, W.frozen? ⟨b, o, none⟩ = false := fun o => by rw [bW.frozen (p := ⟨b, o, none⟩) q2]; exact z3 o
      rw [← keyb] at z0 z1 z2
      obtain ⟨Y, hY⟩ : ∃ Y, Y = ((W.setCell ⟨b, off, none⟩ (.string (Em.str (F.ty X).op))).setCell ⟨b, off + 1, none⟩ (.int .i64 (F.ty X).n)).drew := ⟨_, rfl⟩
      have HWE : Hid (wr.alloc (.cells #[.pointer (some ⟨b, off, none⟩), .pointer (some ⟨x, 0, none⟩)] 79) = W) := hW.symm
      have HYE : Hid (((W.setCell ⟨b, off, none⟩ (.string (Em.str (F.ty X).op))).setCell ⟨b, off + 1, none⟩ (.int .i64 (F.ty X).n)).drew = Y) := hY.symm
      have f0 := fW off
      have f1 := fW (off + 1)
      have h2 := two_mk hW hY q2 ⟨by rw [← keyb]; exact z0, by rw [← keyb]; exact z1, by rw [← keyb]; exact z2, z3⟩
      have H2 : Hid (Two wr Y b off (F.ty X).op (F.ty X).n) := h2
      have hbX : X ≠ b := by have := HTM.out.2.2.1 X hXL; omega
      have y2c : Y.cell? ⟨X, 2, none⟩ = some (.slice xa (F.ks X).length xc) := by
        have e1 : Y.cell? ⟨X, 2, none⟩ = wr.cell? ⟨X, 2, none⟩ := h2.kept.cell (by have := HTM.out.2.2.1 X hXL; have := HI.out.bel.size; omega) hbX 2
        rw [e1, ← bW.cell (p := ⟨X, 2, none⟩) (by have := HTM.out.2.2.1 X hXL; have := HI.out.bel.size; simp only; omega)]
        exact x2c
      obtain ⟨lx, hlx'⟩ : ∃ o, o = (F.ks X).length := ⟨_, rfl⟩
      have hlx : lx ≤ 2 := by rw [hlx']; exact teach_two HF.out.1 hXL
      rw [← hlx'] at y2c
      have HLX : Hid (lx = (F.ks X).length) := hlx'
      have yb : Y.cell? ⟨wr.heap.size, 0, none⟩ = some (.pointer (some ⟨b, off, none⟩)) := h2.box
      have y22 : Y.cell? ⟨b, off + 2, none⟩ = some (.slice none 0 0) := h2.c2
      have fy2 : Y.frozen? ⟨b, off + 2, none⟩ = false := by rw [h2.fz]; exact z3 _
      have HXK : Hid (IsPtrs W K xa xc (F.ks X) ∧ Below w.heap.size w W ∧ W.cell? ⟨X, 2, none⟩ = some (.slice xa lx xc)) := ⟨xk, bwW, by rw [hlx']; exact x2c⟩
      clear hX hW hY hget hcell hm hpc1 tW h2 hlx' hbX keyb fW z2 z3 bW xk
      go_upto_region 5 with fail
      rw [HWE.out]
      clear k0 k1
      go_wp2_with (go_at_call 37; refine HEP.mono ?_; rintro e w2 ⟨rfl, hw2⟩; rw [hw2]; clear hw2)
      go_region
      (try simp only [Exit.inBlock, Exit.then])
      rw [HYE.out]
      clear HEP z0 z1 v0 v1 x0c x1c x2c f0 f1
      go_upto_if 50 with fail
      go_cut [] (fun wx => ∃ kb, Hid (Mid wr wx b off (F.ty X).op (F.ty X).n lx kb))
      case first =>
        by_cases hl0 : lx = 0
        · subst hl0
          go_wp2_with fail
          go_meet
          exact ⟨0, H2.out.mid0 0⟩
        · have hlp : (0 : Int) < (lx : Int) := by omega
          have HL0 : Hid (0 < lx) := by rw [Hid]; omega
          have hmk := run_make_ty lx hlx
          have bA : Below Y.heap.size Y (Y.alloc (.cells (madeCells #[.string ⟨#[]⟩, .int .i64 0, .slice none 0 0] (lx * 3)) 25)) := (Below.refl _ _).alloc (Nat.le_refl _) _
          have a1 : (Y.alloc (.cells (madeCells #[.string ⟨#[]⟩, .int .i64 0, .slice none 0 0] (lx * 3)) 25)).cell? ⟨wr.heap.size, 0, none⟩ = some (.pointer (some ⟨b, off, none⟩)) := by rw [bA.cell (p := ⟨wr.heap.size, 0, none⟩) (Em.cell_lt yb)]; exact yb
          have a2 : (Y.alloc (.cells (madeCells #[.string ⟨#[]⟩, .int .i64 0, .slice none 0 0] (lx * 3)) 25)).cell? ⟨b, off + 2, none⟩ = some (.slice none 0 0) := by rw [bA.cell (p := ⟨b, off + 2, none⟩) (Em.cell_lt y22)]; exact y22
          have a3 : (Y.alloc (.cells (madeCells #[.string ⟨#[]⟩, .int .i64 0, .slice none 0 0] (lx * 3)) 25)).frozen? ⟨b, off + 2, none⟩ = false := by rw [bA.frozen (p := ⟨b, off + 2, none⟩) (Em.cell_lt y22)]; exact fy2
          have a4 : (Y.alloc (.cells (madeCells #[.string ⟨#[]⟩, .int .i64 0, .slice none 0 0] (lx * 3)) 25)).cell? ⟨X, 2, none⟩ = some (.slice xa lx xc) := by rw [bA.cell (p := ⟨X, 2, none⟩) (Em.cell_lt y2c)]; exact y2c
          clear hl0 bA
          go_wp2_with fail
          go_region
          go_wp2
          go_meet
          exact ⟨Y.heap.size, H2.out.mid HQ.out.2.1 HL0.out rfl⟩
      case rest =>
        obtain ⟨kb, HM⟩ := hcut
        obtain ⟨U, hU⟩ : ∃ U, U = wc := ⟨_, rfl⟩
        rw [← hU] at HM ⊢
        clear hU y2c yb y22 fy2 HWE HYE H2
        have hsz0 := HI.out.bel.size
        have u2c : U.cell? ⟨X, 2, none⟩ = some (.slice xa lx xc) := by
          have hXw := HTM.out.2.2.1 X HXE.out.2
          have e1 : U.cell? ⟨X, 2, none⟩ = wr.cell? ⟨X, 2, none⟩ := HM.out.kept.cell (by omega) (by have := HQ.out.1; omega) 2
          rw [e1, HI.out.bel.cell (p := ⟨X, 2, none⟩) hXw, ← HXK.out.2.1.cell (p := ⟨X, 2, none⟩) hXw]
          exact HXK.out.2.2
        have HKC : Hid (∀ kbx j, kbx < w.heap.size → U.cell? ⟨kbx, j, none⟩ = W.cell? ⟨kbx, j, none⟩) := fun kbx j hk => by
          have e1 : U.cell? ⟨kbx, j, none⟩ = wr.cell? ⟨kbx, j, none⟩ := HM.out.kept.cell (by omega) (by have := HQ.out.1; omega) j
          rw [e1, HI.out.bel.cell (p := ⟨kbx, j, none⟩) hk, HXK.out.2.1.cell (p := ⟨kbx, j, none⟩) hk]
        have HRU : Hid (OwnTwo 79 U (w.heap.size + 1) (.slice (some ⟨g, 0, none⟩) m pc) (H'.map copV)) := by
          have hr := HI.out.rows
          rw [List.map_append] at hr
          have hr2 := hr.pop (m := m) (by rw [List.length_map]; exact HMM.out)
          refine hr2.keep fun k hk => HM.out.kept.block k (hr2.lt hk).2 fun e => ?_
          have := (HI.out.holes ((b, off), x) (by simp)).2.2.2.2.2
          rw [e] at hk
          exact this hk
        have HXR : Hid (∀ k, k ≤ w.heap.size → some k ≠ (Value.slice (some ⟨g, 0, none⟩) m pc).ownBlock) := fun k hk e => by have := (HRU.out.lt e).1; omega
        have HBN : Hid (some b ≠ (Value.slice (some ⟨g, 0, none⟩) m pc).ownBlock ∧ some wr.heap.size ≠ (Value.slice (some ⟨g, 0, none⟩) m pc).ownBlock) := by
          refine ⟨fun e => (HI.out.holes ((b, off), x) (by simp)).2.2.2.2.2 e, fun e => ?_⟩
          injection e with e
          have h1 := HI.out.rows.lt (k := g) rfl
          simp only at e; omega
        have ub : U.cell? ⟨wr.heap.size, 0, none⟩ = some (.pointer (some ⟨b, off, none⟩)) := HM.out.box
        have uc2 := HM.out.c2
        have HUC : Hid (U.cell? ⟨wr.heap.size, 0, none⟩ = some (.pointer (some ⟨b, off, none⟩)) ∧ U.cell? ⟨b, off + 2, none⟩ = some (.slice (if lx = 0 then none else some ⟨kb, 0, none⟩) lx lx) ∧ U.cell? ⟨X, 2, none⟩ = some (.slice xa lx xc)) := ⟨ub, uc2, u2c⟩
        have hBU : w.heap.size + 1 ≤ U.heap.size := by have := HM.out.lt; omega
        have HZU : Hid (ZeroAt U w.heap.size 0) := by
          obtain ⟨z0, z1, z2, z3⟩ := HZ.out
          have h1 := HQ.out.1
          have h2 := HQ.out.2.1
          have e : U.heap[w.heap.size]? = _ := HM.out.kept.block w.heap.size (by omega) (by omega)
          exact ⟨by rw [World.cell?_of_block (a := ⟨w.heap.size, 0, none⟩) e]; exact z0, by rw [World.cell?_of_block (a := ⟨w.heap.size, 0 + 1, none⟩) e]; exact z1, by rw [World.cell?_of_block (a := ⟨w.heap.size, 0 + 2, none⟩) e]; exact z2, fun o => by rw [World.frozen?_of_block (a := ⟨w.heap.size, o, none⟩) e]; exact z3 o⟩
        clear ub uc2 hsz0
        go_wp2_with fail
        go_loopw [4, 66] (fun pv i wr2 => ∃ (j : Nat), j ≤ lx ∧ i = .int .i64 j ∧ Hid (OwnTwo 79 wr2 (w.heap.size + 1) pv ((H' ++ (newHoles kb (F.ks X)).take j).map copV) ∧ Grew U wr2 (.slice (some ⟨g, 0, none⟩) m pc) pv)) (fun _ i _ => lx - (intOf i).toNat)
        case atStart => exact ⟨0, Nat.zero_le _, rfl, by rw [List.take_zero, List.append_nil]; exact HRU.out, Grew.of_below (Below.refl _ _)⟩
        case round =>
          obtain ⟨j, hj, rfl, HR⟩ := hrel
          obtain ⟨pa2, pc2, hpe2⟩ := HR.out.1.form
          obtain ⟨m2, hm2⟩ : ∃ m2, m2 = ((H' ++ (newHoles kb (F.ks X)).take j).map copV).length := ⟨_, rfl⟩
          rw [← hm2] at hpe2
          by_cases hlt : j < lx
          · obtain ⟨kx, hkx⟩ : ∃ k, (F.ks X)[j]? = some k := ⟨_, List.getElem?_eq_getElem (by have := HLX.out; omega)⟩
            obtain ⟨bx', rfl, hbx1, hbx2, hcx⟩ := HXK.out.1.2.2 (by have := HLX.out; omega)
            have cx := hcx j kx hkx
            have hbxw := HTM.out.2.1 _ hbx2
            rw [← HKC.out bx' j hbxw] at cx
            have cx2 := HR.out.2.cell cx (HXR.out bx' (Nat.le_of_lt hbxw))
            have ub2 := HR.out.2.cell HUC.out.1 HBN.out.2
            have uc22 := HR.out.2.cell HUC.out.2.1 HBN.out.1
            rw [if_neg (by omega)] at uc22
            have HNX : Hid ((H' ++ (newHoles kb (F.ks X)).take (j + 1)).map copV = (H' ++ (newHoles kb (F.ks X)).take j).map copV ++ [copV ((kb, j * 3), kx)]) := by
              have hz : (newHoles kb (F.ks X))[j]? = some ((kb, j * 3), kx) := by rw [newHoles_get, hkx]; rfl
              have hjl := (List.getElem?_eq_some_iff.1 hz).1
              rw [Hid, List.take_succ_eq_append_getElem hjl, (List.getElem?_eq_some_iff.1 hz).2]
              simp
            have HM2 : Hid (m2 = ((H' ++ (newHoles kb (F.ks X)).take j).map copV).length) := hm2
            have hml : m2 ≤ 1000000 := by
              rw [hm2]
              simp only [List.length_map, List.length_append, List.length_take]
              have := HMM.out
              omega
            have hj0 : (0 : Int) ≤ (j : Int) := by omega
            have hjl : (j : Int) < (lx : Int) := by omega
            have hBz : w.heap.size + 1 ≤ wr.heap.size := Nat.le_trans hBU HR.out.2.1.size
            clear hkx hcx cx hm2 u2c
            subst hpe2
            go_wp2_with (at_builtin; refine wpList_app_two twoCopies rfl _ _ rfl (w.heap.size + 1) _ _ rfl HR.out.1 _ _ rfl rfl _ (by simp) rfl (by rw [← HM2.out]; exact hml) hBz ?_; intro v4 w4 o4 hg4; obtain ⟨va4, vc4, hv4⟩ := o4.form; rw [List.length_append, ← HM2.out, List.length_cons, List.length_nil] at hv4; subst hv4; have HS4 : Hid (OwnTwo 79 w4 (w.heap.size + 1) (.slice va4 (m2 + (0 + 1)) vc4) ((H' ++ (newHoles kb (F.ks X)).take j).map copV ++ [copV ((kb, j * 3), kx)]) ∧ Grew wr w4 (.slice pa2 m2 pc2) (.slice va4 (m2 + (0 + 1)) vc4)) := ⟨o4, hg4⟩; clear o4 hg4)
            go_roundw
            case rel => exact ⟨j + 1, by omega, by go_num, by rw [HNX.out]; exact HS4.out.1, HR.out.2.trans HS4.out.2⟩
            case measure => simp [intOf]; omega
          · have hje : j = lx := by omega
            have hTK : (newHoles kb (F.ks X)).take j = newHoles kb (F.ks X) := by rw [List.take_of_length_le]; rw [newHoles_len]; have := HLX.out; omega
            have HRR : Hid (OwnTwo 79 wr (w.heap.size + 1) (.slice pa2 m2 pc2) ((H' ++ newHoles kb (F.ks X)).map copV) ∧ Grew U wr (.slice (some ⟨g, 0, none⟩) m pc) (.slice pa2 m2 pc2)) := by rw [← hpe2]; have h := HR.out; rwa [hTK] at h
            clear hTK hm2
            subst hpe2
            go_wp2_with fail
            go_roundg (muT T (H' ++ newHoles kb (F.ks X)))
            case measure =>
              have q4 := HQ.out.2.2.2
              have e := HF.out.2.2.1 x q4
              have e2 : (T x).size = tsizes ((F.ks (E x)).map T) + 1 := by
                rw [e]
                by_cases hv : F.var (E x)
                · rw [if_pos hv, (HF.out.1.varKids (HF.out.2.1.mem x q4) hv).1, (HF.out.1.varKids (HF.out.2.1.mem x q4) hv).2]
                  simp [tv, Ty.size, tsizes]
                · rw [if_neg hv]; simp only [Ty.size]
              rw [HKK.out, muT_app, muT_app, muT_new, HXE.out.1]
              have e3 : muT T [((b, off), x)] = (T x).size := by simp [muT]
              rw [e3, e2]
              omega
            case rel =>
              have hM := HM.out
              rw [HXE.out.1, HLX.out, HXE.out.1] at hM
              have hRR := HRR.out
              rw [HXE.out.1] at hRR ⊢
              refine ⟨_, HI.out.next HF.out.1 HF.out.2.1 HF.out.2.2.1 HF.out.2.2.2.2 HTM.out.2.2.2.1 HMM.out hM hRR.2 hRR.1, rfl, ?_⟩
              obtain ⟨z0, z1, z2, z3⟩ := HZU.out
              have e : wr.heap[w.heap.size]? = _ := HRR.out.2.1.block w.heap.size (by omega) (HXR.out _ (Nat.le_refl _))
              exact ⟨by rw [World.cell?_of_block (a := ⟨w.heap.size, 0, none⟩) e]; exact z0, by rw [World.cell?_of_block (a := ⟨w.heap.size, 0 + 1, none⟩) e]; exact z1, by rw [World.cell?_of_block (a := ⟨w.heap.size, 0 + 2, none⟩) e]; exact z2, fun o => by rw [World.frozen?_of_block (a := ⟨w.heap.size, o, none⟩) e]; exact z3 o⟩
end Go.Proofs.Ytadhjnbhcenocaa

/- The program's own Look (package scheme). -/
import Derived.Test.YtbiihiibebdjgaaScL
import Derived.Test.YtbiihiibebdjgaaScG
namespace Go.Proofs.Ytbiihiibebdjgaa
open Go.RowKit Go.Shelf Go.Em8
set_option linter.unusedSimpArgs false
set_option linter.unusedVariables false
attribute [local go_sem] Oper.semAt_some

/-- What lies in the two boxes of Look's answer when it has found a bound. -/
def LookBox (w : World) (l : List Bd) (nm : List Int) (W : World) : Prop :=
  ∃ x va vk vc s n ka kl kc, lastB l nm = some x ∧ Below w.heap.size w W ∧ W.cell? ⟨w.heap.size + 1, 0, none⟩ = some (.slice va vk vc) ∧ W.cell? ⟨w.heap.size + 1, 1, none⟩ = some (.string s) ∧ W.cell? ⟨w.heap.size + 1, 2, none⟩ = some (.int .i64 n) ∧ W.cell? ⟨w.heap.size + 1, 3, none⟩ = some (.slice ka kl kc) ∧ W.cell? ⟨w.heap.size + 2, 0, none⟩ = some (.bool true) ∧
    OwnInts W w.heap.size (.slice va vk vc) x.vs ∧ (∀ y ∈ x.vs, Em5.I64 y) ∧ IsTyP (fun b => w.heap.size ≤ b) W x.ty (.agg #[.string s, .int .i64 n, .slice ka kl kc])
/-- What Look answers: in new memory. -/
def LookS (w : World) (l : List Bd) (nm : List Int) (e : Ending) (w' : World) : Prop := Below w.heap.size w w' ∧
  ((∃ x va vk vc s n ka kl kc, lastB l nm = some x ∧ e = .returned (.tuple #[.agg #[.slice va vk vc, .string s, .int .i64 n, .slice ka kl kc], .bool true]) ∧ OwnInts w' w.heap.size (.slice va vk vc) x.vs ∧ (∀ y ∈ x.vs, Em5.I64 y) ∧ IsTyP (fun b => w.heap.size ≤ b) w' x.ty (.agg #[.string s, .int .i64 n, .slice ka kl kc])) ∨
   (lastB l nm = none ∧ e = .returned (.tuple #[.agg #[.slice none 0 0, .string ⟨#[]⟩, .int .i64 0, .slice none 0 0], .bool false])))
theorem LookS.ok {w w' : World} {l : List Bd} {nm : List Int} {e : Ending} (h : LookS w l nm e w') : LookOk w l nm e w' := by
  refine ⟨h.1, h.2.imp ?_ id⟩
  rintro ⟨x, va, vk, vc, s, n, ka, kl, kc, h1, h2, h3, h4, h5⟩
  exact ⟨x, va, vk, vc, s, n, ka, kl, kc, h1, h2, h3.is h4, isTyP_is _ _ h5⟩
theorem LookBox.putObj {w W : World} {l : List Bd} {nm : List Int} (h : LookBox w l nm W) {q : Nat} {o o' : Obj} (hq : w.heap.size ≤ q) (ho : W.heap[q]? = some o) (hn : o.isCells = false) (hw : o.isWalk = false) : LookBox w l nm (W.putObj q o') := by
  obtain ⟨x, va, vk, vc, s, n, ka, kl, kc, h1, h2, m0, m1, m2, m3, m4, g1, gi, g2⟩ := h
  exact ⟨x, va, vk, vc, s, n, ka, kl, kc, h1, h2.trans (belowK_b (w := w) (Nat.le_refl _) W q o o' hq ho hn hw), cell_putObj ho hn m0, cell_putObj ho hn m1, cell_putObj ho hn m2, cell_putObj ho hn m3, cell_putObj ho hn m4, g1.putObj ho hn, gi, isTyP_putObj ho hn _ _ g2⟩
/-- Between two rounds of Look: none of the last k is the one. -/
def LookI (w W0 : World) (l : List Bd) (nm : List Int) (k : Nat) (W : World) : Prop := Below W0.heap.size W0 W ∧ ∀ y ∈ l.drop (l.length - k), y.nm ≠ nm

theorem look_end {w X w4 : World} {l : List Bd} {nm : List Int} {x : Bd} {B : Nat} {ua za : Option Addr} {uk uc zk zc : Nat} {z0 : ByteArray} {z1 : Int} {o0 o1 o2 o3 o4 : Value} (h1 : lastB l nm = some x) (h2 : Below w.heap.size w w4) (h3 : Below X.heap.size X w4) (h4 : w.heap.size + 4 ≤ B) (h5 : B ≤ X.heap.size)
    (q0 : w4.cell? ⟨w.heap.size + 1, 0, none⟩ = some o0) (q1 : w4.cell? ⟨w.heap.size + 1, 1, none⟩ = some o1) (q2 : w4.cell? ⟨w.heap.size + 1, 2, none⟩ = some o2) (q3 : w4.cell? ⟨w.heap.size + 1, 3, none⟩ = some o3) (q4 : w4.cell? ⟨w.heap.size + 2, 0, none⟩ = some o4)
    (g1 : OwnInts w4 X.heap.size (.slice ua uk uc) x.vs) (g2 : ∀ y ∈ x.vs, Em5.I64 y) (g3 : IsTyP (fun b => X.heap.size ≤ b) w4 x.ty (.agg #[.string z0, .int .i64 z1, .slice za zk zc])) :
    LookBox w l nm (((((w4.setCell ⟨w.heap.size + 1, 0, none⟩ (.slice ua uk uc)).setCell ⟨w.heap.size + 1, 1, none⟩ (.string z0)).setCell ⟨w.heap.size + 1, 2, none⟩ (.int .i64 z1)).setCell ⟨w.heap.size + 1, 3, none⟩ (.slice za zk zc)).setCell ⟨w.heap.size + 2, 0, none⟩ (.bool true)) ∧
    X.heap.size ≤ w4.heap.size ∧
    ∀ q, B ≤ q → q < X.heap.size → ∀ o, X.heap[q]? = some o → o.isCells = false → (((((w4.setCell ⟨w.heap.size + 1, 0, none⟩ (.slice ua uk uc)).setCell ⟨w.heap.size + 1, 1, none⟩ (.string z0)).setCell ⟨w.heap.size + 1, 2, none⟩ (.int .i64 z1)).setCell ⟨w.heap.size + 1, 3, none⟩ (.slice za zk zc)).setCell ⟨w.heap.size + 2, 0, none⟩ (.bool true)).heap[q]? = X.heap[q]? := by
  have hb : ∀ q, w.heap.size + 3 ≤ q → (((((w4.setCell ⟨w.heap.size + 1, 0, none⟩ (.slice ua uk uc)).setCell ⟨w.heap.size + 1, 1, none⟩ (.string z0)).setCell ⟨w.heap.size + 1, 2, none⟩ (.int .i64 z1)).setCell ⟨w.heap.size + 1, 3, none⟩ (.slice za zk zc)).setCell ⟨w.heap.size + 2, 0, none⟩ (.bool true)).heap[q]? = w4.heap[q]? := fun q hq => by
    rw [Below.heap_setCell _ _ _ _ (by simp; omega), Below.heap_setCell _ _ _ _ (by simp; omega), Below.heap_setCell _ _ _ _ (by simp; omega), Below.heap_setCell _ _ _ _ (by simp; omega), Below.heap_setCell _ _ _ _ (by simp; omega)]
  refine ⟨⟨x, ua, uk, uc, z0, z1, za, zk, zc, h1, ?_, ?_, ?_, ?_, ?_, ?_, ?_, g2, ?_⟩, h3.size, fun q hq hl o _ _ => ?_⟩
  · exact (below_set4 h2 (by omega) _ _ _ _).setCell (p := ⟨w.heap.size + 2, 0, none⟩) (by simp) _
  · simp [go_sem, q0, q1, q2, q3, q4]
  · simp [go_sem, q0, q1, q2, q3, q4]
  · simp [go_sem, q0, q1, q2, q3, q4]
  · simp [go_sem, q0, q1, q2, q3, q4]
  · simp [go_sem, q0, q1, q2, q3, q4]
  · refine OwnInts.base (B := X.heap.size) ?_ (by omega)
    have hne : ∀ g, g < X.heap.size → some g ≠ (Value.slice ua uk uc).ownBlock := fun g hg e => by
      have h1 := (World.ownsRow.lt (show w4.ownsRow X.heap.size 3 1 _ _ _ from g1) _ e.symm).1
      omega
    exact ((((g1.setOther (hne _ (by omega))).setOther (hne _ (by omega))).setOther (hne _ (by omega))).setOther (hne _ (by omega))).setOther (hne _ (by omega))
  · exact isTyP_keep (by simp) (fun b hp hl => ⟨hb b (by omega), by omega⟩) _ _ g3
  · rw [hb q (by omega)]
    exact h3.block q hl
theorem three_allocs (w : World) (o1 o2 o3 : Obj) : (((w.alloc o1).alloc o2).alloc o3).heap[w.heap.size]? = some o1 ∧ (((w.alloc o1).alloc o2).alloc o3).heap[w.heap.size + 1]? = some o2 ∧ (((w.alloc o1).alloc o2).alloc o3).heap[w.heap.size + 2]? = some o3 := by
  have h1 := World.alloc_heap_new w o1
  have h2 := World.alloc_heap_new (w.alloc o1) o2
  have h3 := World.alloc_heap_new ((w.alloc o1).alloc o2) o3
  simp only [World.size_alloc] at h2 h3
  exact ⟨(Below.heap_alloc _ _ _ (by simp; omega)).trans ((Below.heap_alloc _ _ _ (by simp)).trans h1), (Below.heap_alloc _ _ _ (by simp)).trans h2, h3⟩

set_option maxRecDepth 100000 in
set_option maxHeartbeats 4000000 in
theorem sLook_any (l : List Bd) (pa : Option Addr) (pk pc : Nat) (nm : List Int) (hnm : Em5.Txt nm) (w : World) (hv : IsBds w (.slice pa pk pc) l) (hl : BdsOk l) :
    Calls Try.prog 11 #[.slice pa pk pc, .string (Em.str nm)] w fun e w' => LookS w l nm e w' := by
  have hpk : pk = l.length := by obtain ⟨a, cap, e, -⟩ := hv; cases e; rfl
  subst hpk
  obtain ⟨f, hf⟩ := hv.fn
  obtain ⟨W, hW⟩ : ∃ W, W = ((w.alloc (.cells #[.string (Em.str nm)] 9)).alloc (.cells #[.slice none 0 0, .string ⟨#[]⟩, .int .i64 0, .slice none 0 0] 31)).alloc (.cells #[.bool false] 4) := ⟨_, rfl⟩
  have hbW : Below w.heap.size w W := by rw [hW]; exact (((Below.refl _ _).alloc (Nat.le_refl _) _).alloc (by simp) _).alloc (by simp; omega) _
  have hz : W.heap.size = w.heap.size + 3 := by rw [hW]; simp
  obtain ⟨t1, t2, t3⟩ := three_allocs w (.cells #[.string (Em.str nm)] 9) (.cells #[.slice none 0 0, .string ⟨#[]⟩, .int .i64 0, .slice none 0 0] 31) (.cells #[.bool false] 4)
  rw [← hW] at t1 t2 t3
  have n0 : W.cell? ⟨w.heap.size, 0, none⟩ = some (.string (Em.str nm)) := by simp [World.cell?, t1]
  have q0 : W.cell? ⟨w.heap.size + 1, 0, none⟩ = some (.slice none 0 0) := by simp [World.cell?, t2]
  have q1 : W.cell? ⟨w.heap.size + 1, 1, none⟩ = some (.string ⟨#[]⟩) := by simp [World.cell?, t2]
  have q2 : W.cell? ⟨w.heap.size + 1, 2, none⟩ = some (.int .i64 0) := by simp [World.cell?, t2]
  have q3 : W.cell? ⟨w.heap.size + 1, 3, none⟩ = some (.slice none 0 0) := by simp [World.cell?, t2]
  have q4 : W.cell? ⟨w.heap.size + 2, 0, none⟩ = some (.bool false) := by simp [World.cell?, t3]
  have fq : ∀ o, W.frozen? ⟨w.heap.size + 1, o, none⟩ = false := by intro o; simp [World.frozen?, t2]
  have fr : ∀ o, W.frozen? ⟨w.heap.size + 2, o, none⟩ = false := by intro o; simp [World.frozen?, t3]
  have HC : Hid (∀ w', Below W.heap.size W w' → w'.cell? ⟨w.heap.size, 0, none⟩ = some (.string (Em.str nm)) ∧ w'.cell? ⟨w.heap.size + 1, 0, none⟩ = some (.slice none 0 0) ∧ w'.cell? ⟨w.heap.size + 1, 1, none⟩ = some (.string ⟨#[]⟩) ∧ w'.cell? ⟨w.heap.size + 1, 2, none⟩ = some (.int .i64 0) ∧ w'.cell? ⟨w.heap.size + 1, 3, none⟩ = some (.slice none 0 0) ∧ w'.cell? ⟨w.heap.size + 2, 0, none⟩ = some (.bool false) ∧ (∀ o, w'.frozen? ⟨w.heap.size + 1, o, none⟩ = false) ∧ (∀ o, w'.frozen? ⟨w.heap.size + 2, o, none⟩ = false)) := fun w' hb => by
    have e0 : ∀ o, w'.cell? ⟨w.heap.size, o, none⟩ = W.cell? ⟨w.heap.size, o, none⟩ := fun o => hb.cell (p := ⟨w.heap.size, o, none⟩) (by simp only; omega)
    have e1 : ∀ o, w'.cell? ⟨w.heap.size + 1, o, none⟩ = W.cell? ⟨w.heap.size + 1, o, none⟩ := fun o => hb.cell (p := ⟨w.heap.size + 1, o, none⟩) (by simp only; omega)
    have e2 : ∀ o, w'.cell? ⟨w.heap.size + 2, o, none⟩ = W.cell? ⟨w.heap.size + 2, o, none⟩ := fun o => hb.cell (p := ⟨w.heap.size + 2, o, none⟩) (by simp only; omega)
    have e3 : ∀ o, w'.frozen? ⟨w.heap.size + 1, o, none⟩ = W.frozen? ⟨w.heap.size + 1, o, none⟩ := fun o => hb.frozen (p := ⟨w.heap.size + 1, o, none⟩) (by simp only; omega)
    have e4 : ∀ o, w'.frozen? ⟨w.heap.size + 2, o, none⟩ = W.frozen? ⟨w.heap.size + 2, o, none⟩ := fun o => hb.frozen (p := ⟨w.heap.size + 2, o, none⟩) (by simp only; omega)
    exact ⟨(e0 _).trans n0, (e1 _).trans q0, (e1 _).trans q1, (e1 _).trans q2, (e1 _).trans q3, (e2 _).trans q4, fun o => (e3 o).trans (fq o), fun o => (e4 o).trans (fr o)⟩
  have HW : Hid (Below w.heap.size w W ∧ W.heap.size = w.heap.size + 3) := ⟨hbW, hz⟩
  have HF : Hid (∀ j x, l[j]? = some x → BdAt w pa j x (f j)) := hf
  have HN : Hid (Em5.Txt nm) := hnm
  have HL : Hid (BdsOk l) := hl
  have hlen := hl.1
  have HWE : Hid (((w.alloc (.cells #[.string (Em.str nm)] 9)).alloc (.cells #[.slice none 0 0, .string ⟨#[]⟩, .int .i64 0, .slice none 0 0] 31)).alloc (.cells #[.bool false] 4) = W) := hW.symm
  clear hv hf hnm hl hbW hz hW n0 q0 q1 q2 q3 q4 fq fr t1 t2 t3
  refine (callsIn_wide (n := 6)).1 ?_
  refine callsIn_of_wp_marks Try.func11 rfl trivial ?_ rfl
  simp only [Try.ntmps11, List.size_toArray, List.length_cons, List.length_nil, Nat.reduceAdd, Nat.reduceSub, Array.replicate_succ, Array.replicate_zero, List.push_toArray, List.append_toArray, List.nil_append, List.cons_append]
  gi_wp2_with (refine ⟨trivial, ?_⟩; gi_at_call 24; refine (sbackward_in _ _ trivial rfl _ _ _ _).mono ?_; rintro e w' ⟨rfl, rfl⟩)
  rw [HWE.out]
  clear HWE
  simp only [Nat.add_assoc, Nat.reduceAdd]
  obtain ⟨W0, hW0⟩ : ∃ W0, W0 = W.alloc (.cells #[.slice pa l.length pc] 22) := ⟨_, rfl⟩
  have H0 : Hid (Below W.heap.size W W0 ∧ W0.heap.size = w.heap.size + 4 ∧ W0.cell? ⟨w.heap.size + 3, 0, none⟩ = some (.slice pa l.length pc)) := by
    refine ⟨?_, ?_, ?_⟩
    · rw [hW0]; exact (Below.refl _ _).alloc (Nat.le_refl _) _
    · rw [hW0]; simp; exact HW.out.2
    · have h := World.alloc_heap_new W (.cells #[.slice pa l.length pc] 22)
      rw [← hW0, HW.out.2] at h
      simp [World.cell?, h]
  have HB : Hid (∀ W1, Below W0.heap.size W0 W1 → Below W.heap.size W W1) := fun W1 hb => H0.out.1.trans (hb.mono H0.out.1.size)
  rw [← hW0]
  clear hW0
  refine range_search rfl (by omega) (gf := 38) (lb := #[.pointer (some ⟨w.heap.size + 3, 0, none⟩)]) rfl trivial (enters_of Try.func38 (by kernel_rfl) rfl)
    (fun k => #[.int .i64 ((l.length - 1 - k : Nat) : Int), f (l.length - 1 - k)]) l.length (fun k => rfl) (LookI w W0 l nm) (LookBox w l nm)
    (fun k a' W' => ∃ x bx va vk vc s n ka kl kc, l[l.length - 1 - k]? = some x ∧ Em5.Txt x.nm ∧ IsInts w (.slice va vk vc) x.vs ∧ IsTy w x.ty (.agg #[.string s, .int .i64 n, .slice ka kl kc]) ∧ W0.heap.size ≤ bx ∧ a' = { tmps := #[.slice pa l.length pc, .string (Em.str nm), undef, .pointer (some ⟨w.heap.size, 0, none⟩), .pointer (some ⟨w.heap.size + 1, 0, none⟩), .pointer (some ⟨w.heap.size + 2, 0, none⟩), undef, .pointer (some ⟨bx, 0, none⟩), .slice pa l.length pc, .func (.func 38) #[] #[.pointer (some ⟨w.heap.size + 3, 0, none⟩)], .int .i64 ((l.length - 1 - k : Nat) : Int), .agg #[.string (Em.str x.nm), .slice va vk vc, .string s, .int .i64 n, .slice ka kl kc], undef, undef, undef, undef, undef, undef, undef, undef, undef, undef, undef, undef, undef, undef], defers := [] } ∧
      W'.cell? ⟨bx, 0, none⟩ = some (.string (Em.str x.nm)) ∧ W'.cell? ⟨bx, 1, none⟩ = some (.slice va vk vc) ∧ W'.cell? ⟨bx, 2, none⟩ = some (.string s) ∧ W'.cell? ⟨bx, 3, none⟩ = some (.int .i64 n) ∧ W'.cell? ⟨bx, 4, none⟩ = some (.slice ka kl kc))
    (fun k X X' h hb => ⟨h.1.trans (hb.mono h.1.size), h.2⟩) (fun k X q o o' hq ho h1 h2 h => ⟨h.1.trans (belowK_b (w := W0) (Nat.le_refl _) X q o o' hq ho h1 h2), h.2⟩) (fun X q o o' hq ho h1 h2 h => h.putObj (by have := H0.out.2.1; omega) ho h1 h2)
    (fun k a' X q o o' ho h1 h => by
      obtain ⟨x, bx, va, vk, vc, s, n, ka, kl, kc, e1, e2, e3, e4, e5, e6, m0, m1, m2, m3, m4⟩ := h
      exact ⟨x, bx, va, vk, vc, s, n, ka, kl, kc, e1, e2, e3, e4, e5, e6, cell_putObj ho h1 m0, cell_putObj ho h1 m1, cell_putObj ho h1 m2, cell_putObj ho h1 m3, cell_putObj ho h1 m4⟩)
    ⟨Below.refl _ _, by simp⟩ ?iter ?assign ?body ?done ?ret
  case iter =>
    intro l' J Jx X hJI hY h0
    refine sback_in Fence.wide (6 - 1) trivial rfl (by omega) l' (w.heap.size + 3) pc pa l f (by omega) J Jx (fun k X hk => ?_) (fun j x X hx hj => ?_) X h0
    · have hb := (hJI k X hk).1
      refine ⟨(hb.cell (p := ⟨w.heap.size + 3, 0, none⟩) (by have := H0.out.2.1; simp only; omega)).trans H0.out.2.2, fun j x hx => ?_⟩
      exact (HF.out j x hx).below (HW.out.1.trans ((HB.out X hb).mono HW.out.1.size))
    · have hl := (List.getElem?_eq_some_iff.1 hx).1
      have e : l.length - 1 - (l.length - 1 - j) = j := by omega
      have := hY (l.length - 1 - j) X hj (by omega)
      simpa only [e] using this
  case assign =>
    intro l' k X K hI hk hK
    obtain ⟨x, hx⟩ : ∃ x, l[l.length - 1 - k]? = some x := ⟨_, List.getElem?_eq_getElem (by omega)⟩
    obtain ⟨b, off, va, vk, vc, s, n, ka, kl, kc, -, -, hf, ht, -, -, -, -, -, gV, gT⟩ := HF.out _ x hx
    have HX : Hid (l[l.length - 1 - k]? = some x ∧ Em5.Txt x.nm ∧ IsInts w (.slice va vk vc) x.vs ∧ IsTy w x.ty (.agg #[.string s, .int .i64 n, .slice ka kl kc]) ∧ Below W0.heap.size W0 X) := ⟨hx, ht, gV, gT, hI.1⟩
    rw [hf]
    clear hf hk hI hx gV gT ht
    gi_wp2
    refine hK _ _ ((Below.refl _ _).alloc (Nat.le_refl _) _) ⟨x, X.heap.size, va, vk, vc, s, n, ka, kl, kc, HX.out.1, HX.out.2.1, HX.out.2.2.1, HX.out.2.2.2.1, HX.out.2.2.2.2.size, rfl, ?_, ?_, ?_, ?_, ?_⟩ <;> simp
  case body =>
    rintro l' k a' X ⟨hb, hI⟩ ⟨x, bx, va, vk, vc, s, n, ka, kl, kc, e1, e2, e3, e4, e5, rfl, m0, m1, m2, m3, m4⟩ hk
    have hbW := HB.out X hb
    obtain ⟨n0, q0, q1, q2, q3, q4, fq, fr⟩ := HC.out X hbW
    obtain ⟨q, hq⟩ : ∃ q, q = decide (x.nm = nm) := ⟨_, rfl⟩
    have HQ : Hid (q = decide (x.nm = nm)) := hq
    have hs : ((Em.str x.nm).toList == (Em.str nm).toList) = q := by rw [hq]; exact tstr_beq e2 HN.out
    have HX : Hid (l[l.length - 1 - k]? = some x ∧ IsInts w (.slice va vk vc) x.vs ∧ IsTy w x.ty (.agg #[.string s, .int .i64 n, .slice ka kl kc]) ∧ Below W0.heap.size W0 X ∧ Below W.heap.size W X ∧ k < l.length ∧ W0.heap.size ≤ bx ∧ ∀ y ∈ l.drop (l.length - k), y.nm ≠ nm) := ⟨e1, e3, e4, hb, hbW, hk, e5, hI⟩
    clear hb hbW hI e1 e2 e3 e4 hk hq
    cases q with
    | false =>
      gi_wp2
      refine ⟨HX.out.2.2.2.1, fun y hy => ?_⟩
      have hkl := HX.out.2.2.2.2.2.1
      have hj : l.length - (k + 1) < l.length := by omega
      rw [List.drop_eq_getElem_cons hj] at hy
      rcases List.mem_cons.1 hy with e | hy
      · have h1 := HX.out.1
        have e2 : l.length - 1 - k = l.length - (k + 1) := by omega
        rw [e2] at h1
        rw [(List.getElem?_eq_some_iff.1 h1).2] at e
        subst e
        exact of_decide_eq_false HQ.out.symm
      · rw [show l.length - (k + 1) + 1 = l.length - k by omega] at hy
        exact HX.out.2.2.2.2.2.2.2 y hy
    | true =>
      gi_wp2
      refine wpIn_region_round (by kernel_rfl) (by kernel_rfl) ?_
      have HI : Hid (IsInts X (.slice va vk vc) x.vs ∧ x.vs.length ≤ 1000000 ∧ w.heap.size ≤ X.heap.size ∧ bx < X.heap.size) := by
        have h1 := HW.out.1.trans (HX.out.2.2.2.2.1.mono HW.out.1.size)
        exact ⟨HX.out.2.1.below h1, by have := (HL.out.2 x (List.mem_of_getElem? HX.out.1)).2; omega, h1.size, Em.cell_lt m0⟩
      have HT : Hid (IsTy w x.ty (.agg #[.string s, .int .i64 n, .slice ka kl kc]) ∧ x.ty.size ≤ 1000000 ∧ Below w.heap.size w X) :=
        ⟨HX.out.2.2.1, by have := (HL.out.2 x (List.mem_of_getElem? HX.out.1)).1; omega, HW.out.1.trans (HX.out.2.2.2.2.1.mono HW.out.1.size)⟩
      have HE : Hid (lastB l nm = some x ∧ w.heap.size + 4 ≤ W0.heap.size ∧ W0.heap.size ≤ X.heap.size ∧ ∀ y ∈ x.vs, Em5.I64 y) := by
        refine ⟨lastB_some HX.out.1 (of_decide_eq_true HQ.out.symm) ?_, by have := H0.out.2.1; omega, HX.out.2.2.2.1.size, HX.out.2.1.i64⟩
        have h1 := HX.out.2.2.2.2.2.1
        rw [show l.length - 1 - k + 1 = l.length - k by omega]
        exact HX.out.2.2.2.2.2.2.2
      clear n0 q0 q1 q2 q3 q4 fq fr hs
      refine wpAnyIn_take (i := 0) (v := ?_) rfl rfl (by kernel_rfl) (by kernel_rfl) (by kernel_rfl) (fun _ _ _ h => h) ⟨Or.inl ⟨by rfl, ?_⟩, fun _ => rfl⟩ ?_
      rotate_left
      · (intro w; go_simp); all_goals (with_reducible rfl)
      simp only [List.getElem_toArray, List.getElem_cons_succ, List.getElem_cons_zero, Act.put, List.setIfInBounds_toArray, List.set_cons_zero, List.set_cons_succ]
      refine wpAnyIn_take (i := 1) (v := ?_) rfl rfl (by kernel_rfl) (by kernel_rfl) (by kernel_rfl) (fun _ _ _ h => h) ⟨Or.inl ⟨by rfl, ?_⟩, fun _ => rfl⟩ ?_
      rotate_left
      · (intro w; go_simp); all_goals (with_reducible rfl)
      simp only [List.getElem_toArray, List.getElem_cons_succ, List.getElem_cons_zero, Act.put, List.setIfInBounds_toArray, List.set_cons_zero, List.set_cons_succ]
      refine wpAnyIn_take (i := 4) (v := ?_) rfl rfl (by kernel_rfl) (by kernel_rfl) (by kernel_rfl) (fun _ _ _ h => h) ⟨Or.inl ⟨by rfl, ?_⟩, fun _ => rfl⟩ ?_
      rotate_left
      · (intro w; go_simp); all_goals (with_reducible rfl)
      simp only [List.getElem_toArray, List.getElem_cons_succ, List.getElem_cons_zero, Act.put, List.setIfInBounds_toArray, List.set_cons_zero, List.set_cons_succ]
      refine wpAnyIn_take (i := 5) (v := ?_) rfl rfl (by kernel_rfl) (by kernel_rfl) (by kernel_rfl) (fun _ _ _ h => h) ⟨Or.inl ⟨by rfl, ?_⟩, fun _ => rfl⟩ ?_
      rotate_left
      · (intro w; go_simp); all_goals (with_reducible rfl)
      simp only [List.getElem_toArray, List.getElem_cons_succ, List.getElem_cons_zero, Act.put, List.setIfInBounds_toArray, List.set_cons_zero, List.set_cons_succ]
      refine wpAnyIn_ready (rs := [2, 6]) (by kernel_rfl) (by simp) (AllReadyIn.cons rfl (fun K hK => ?_) (AllReadyIn.cons rfl (fun K hK => ?_) AllReadyIn.nil))
      ·
        go_simp
        refine hK _ _ ?_
        clear hK K
        refine wpAnyIn_ready (rs := [3, 6]) (by kernel_rfl) (by simp) (AllReadyIn.cons rfl (fun K hK => ?_) (AllReadyIn.cons rfl (fun K hK => ?_) AllReadyIn.nil))
        ·
          go_simp
          refine ⟨trivial, (callsIn_wide (n := 3)).2 ((iclone_any _ x.vs _ (HI.out.1.below (Below.refl _ _).drew) HI.out.2.1).mono ?_)⟩
          rintro e w3 ⟨u3, rfl, o3, b3⟩
          obtain ⟨ua, uc, hu3⟩ := o3.form
          obtain ⟨uk, huk⟩ : ∃ uk, uk = x.vs.length := ⟨_, rfl⟩
          rw [← huk] at hu3
          subst hu3
          have hb3 : Below X.heap.size X w3 := (Below.refl X.heap.size X).drew.trans b3
          replace m2 := (hb3.cell (p := ⟨bx, 2, none⟩) HI.out.2.2.2).trans m2
          replace m3 := (hb3.cell (p := ⟨bx, 3, none⟩) HI.out.2.2.2).trans m3
          replace m4 := (hb3.cell (p := ⟨bx, 4, none⟩) HI.out.2.2.2).trans m4
          have H3 : Hid (OwnInts w3 X.heap.size (.slice ua uk uc) x.vs ∧ Below X.heap.size X w3) := ⟨o3, hb3⟩
          clear o3 b3 hb3 huk m0 m1
          refine hK _ _ ?_
          clear hK K
          refine wpAnyIn_ready (rs := [6]) (by kernel_rfl) (by simp) (AllReadyIn.cons rfl (fun K hK => ?_) AllReadyIn.nil)
          go_simp
          refine hK _ _ ?_
          clear hK K
          refine wpAnyIn_ready (rs := [7]) (by kernel_rfl) (by simp) (AllReadyIn.cons rfl (fun K hK => ?_) AllReadyIn.nil)
          go_simp
          refine ⟨trivial, (callsIn_wide (n := 3)).2 ((snum_any x.ty _ w w3 HT.out.1 (HT.out.2.2.trans (H3.out.2.mono HT.out.2.2.size)) HT.out.2.1).mono ?_)⟩
          rintro e w4 ⟨u4, rfl, o4, b4⟩
          obtain ⟨z0, z1, za, zk, zc, rfl⟩ := isTyP_form o4
          have hb4 : Below X.heap.size X w4 := H3.out.2.trans (b4.mono H3.out.2.size)
          obtain ⟨-, q0, q1, q2, q3, q4, fq, fr⟩ := HC.out w4 (HX.out.2.2.2.2.1.trans (hb4.mono HX.out.2.2.2.2.1.size))
          have H4 : Hid (OwnInts w4 X.heap.size (.slice ua uk uc) x.vs ∧ IsTyP (fun b => X.heap.size ≤ b) w4 x.ty (.agg #[.string z0, .int .i64 z1, .slice za zk zc]) ∧ Below X.heap.size X w4) := ⟨H3.out.1.below b4, isTyP_wide o4 fun b hb _ => Nat.le_trans H3.out.2.size hb, hb4⟩
          clear o4 b4 hb4 m2 m3 m4
          refine hK _ _ ?_
          clear hK K
          refine wpAnyIn_take (i := 8) (v := ?_) rfl rfl (by kernel_rfl) (by kernel_rfl) (by kernel_rfl) (fun _ _ _ h => h) ⟨Or.inl ⟨by rfl, ?_⟩, fun _ => rfl⟩ ?_
          rotate_left
          · (intro w; go_simp); all_goals (with_reducible rfl)
          simp only [List.getElem_toArray, List.getElem_cons_succ, List.getElem_cons_zero, Act.put, List.setIfInBounds_toArray, List.set_cons_zero, List.set_cons_succ]
          refine wpAnyIn_ready (rs := [9]) (by kernel_rfl) (by simp) (AllReadyIn.cons rfl (fun K hK => ?_) AllReadyIn.nil)
          go_simp
          refine hK _ _ ?_
          clear hK K
          refine wpAnyIn_ready (rs := [10]) (by kernel_rfl) (by simp) (AllReadyIn.cons rfl (fun K hK => ?_) AllReadyIn.nil)
          go_simp
          refine hK _ _ ?_
          clear hK K
          refine wpAnyIn_done (by kernel_rfl) ?_ _
          gi_wp2
          exact look_end HE.out.1 (HT.out.2.2.trans (H4.out.2.2.mono HT.out.2.2.size)) H4.out.2.2 HE.out.2.1 HE.out.2.2.1 q0 q1 q2 q3 q4 H4.out.1 HE.out.2.2.2 H4.out.2.1
        ·
          go_simp
          refine hK _ _ ?_
          clear hK K
          refine wpAnyIn_ready (rs := [3]) (by kernel_rfl) (by simp) (AllReadyIn.cons rfl (fun K hK => ?_) AllReadyIn.nil)
          go_simp
          refine ⟨trivial, (callsIn_wide (n := 3)).2 ((iclone_any _ x.vs _ (HI.out.1.below (Below.refl _ _).drew) HI.out.2.1).mono ?_)⟩
          rintro e w3 ⟨u3, rfl, o3, b3⟩
          obtain ⟨ua, uc, hu3⟩ := o3.form
          obtain ⟨uk, huk⟩ : ∃ uk, uk = x.vs.length := ⟨_, rfl⟩
          rw [← huk] at hu3
          subst hu3
          have hb3 : Below X.heap.size X w3 := (Below.refl X.heap.size X).drew.trans b3
          replace m2 := (hb3.cell (p := ⟨bx, 2, none⟩) HI.out.2.2.2).trans m2
          replace m3 := (hb3.cell (p := ⟨bx, 3, none⟩) HI.out.2.2.2).trans m3
          replace m4 := (hb3.cell (p := ⟨bx, 4, none⟩) HI.out.2.2.2).trans m4
          have H3 : Hid (OwnInts w3 X.heap.size (.slice ua uk uc) x.vs ∧ Below X.heap.size X w3) := ⟨o3, hb3⟩
          clear o3 b3 hb3 huk m0 m1
          refine hK _ _ ?_
          clear hK K
          refine wpAnyIn_ready (rs := [7]) (by kernel_rfl) (by simp) (AllReadyIn.cons rfl (fun K hK => ?_) AllReadyIn.nil)
          go_simp
          refine ⟨trivial, (callsIn_wide (n := 3)).2 ((snum_any x.ty _ w w3 HT.out.1 (HT.out.2.2.trans (H3.out.2.mono HT.out.2.2.size)) HT.out.2.1).mono ?_)⟩
          rintro e w4 ⟨u4, rfl, o4, b4⟩
          obtain ⟨z0, z1, za, zk, zc, rfl⟩ := isTyP_form o4
          have hb4 : Below X.heap.size X w4 := H3.out.2.trans (b4.mono H3.out.2.size)
          obtain ⟨-, q0, q1, q2, q3, q4, fq, fr⟩ := HC.out w4 (HX.out.2.2.2.2.1.trans (hb4.mono HX.out.2.2.2.2.1.size))
          have H4 : Hid (OwnInts w4 X.heap.size (.slice ua uk uc) x.vs ∧ IsTyP (fun b => X.heap.size ≤ b) w4 x.ty (.agg #[.string z0, .int .i64 z1, .slice za zk zc]) ∧ Below X.heap.size X w4) := ⟨H3.out.1.below b4, isTyP_wide o4 fun b hb _ => Nat.le_trans H3.out.2.size hb, hb4⟩
          clear o4 b4 hb4 m2 m3 m4
          refine hK _ _ ?_
          clear hK K
          refine wpAnyIn_take (i := 8) (v := ?_) rfl rfl (by kernel_rfl) (by kernel_rfl) (by kernel_rfl) (fun _ _ _ h => h) ⟨Or.inl ⟨by rfl, ?_⟩, fun _ => rfl⟩ ?_
          rotate_left
          · (intro w; go_simp); all_goals (with_reducible rfl)
          simp only [List.getElem_toArray, List.getElem_cons_succ, List.getElem_cons_zero, Act.put, List.setIfInBounds_toArray, List.set_cons_zero, List.set_cons_succ]
          refine wpAnyIn_ready (rs := [9]) (by kernel_rfl) (by simp) (AllReadyIn.cons rfl (fun K hK => ?_) AllReadyIn.nil)
          go_simp
          refine hK _ _ ?_
          clear hK K
          refine wpAnyIn_ready (rs := [10]) (by kernel_rfl) (by simp) (AllReadyIn.cons rfl (fun K hK => ?_) AllReadyIn.nil)
          go_simp
          refine hK _ _ ?_
          clear hK K
          refine wpAnyIn_done (by kernel_rfl) ?_ _
          gi_wp2
          exact look_end HE.out.1 (HT.out.2.2.trans (H4.out.2.2.mono HT.out.2.2.size)) H4.out.2.2 HE.out.2.1 HE.out.2.2.1 q0 q1 q2 q3 q4 H4.out.1 HE.out.2.2.2 H4.out.2.1
      ·
        go_simp
        refine hK _ _ ?_
        clear hK K
        refine wpAnyIn_ready (rs := [2]) (by kernel_rfl) (by simp) (AllReadyIn.cons rfl (fun K hK => ?_) AllReadyIn.nil)
        go_simp
        refine hK _ _ ?_
        clear hK K
        refine wpAnyIn_ready (rs := [3]) (by kernel_rfl) (by simp) (AllReadyIn.cons rfl (fun K hK => ?_) AllReadyIn.nil)
        go_simp
        refine ⟨trivial, (callsIn_wide (n := 3)).2 ((iclone_any _ x.vs _ (HI.out.1.below (Below.refl _ _).drew) HI.out.2.1).mono ?_)⟩
        rintro e w3 ⟨u3, rfl, o3, b3⟩
        obtain ⟨ua, uc, hu3⟩ := o3.form
        obtain ⟨uk, huk⟩ : ∃ uk, uk = x.vs.length := ⟨_, rfl⟩
        rw [← huk] at hu3
        subst hu3
        have hb3 : Below X.heap.size X w3 := (Below.refl X.heap.size X).drew.trans b3
        replace m2 := (hb3.cell (p := ⟨bx, 2, none⟩) HI.out.2.2.2).trans m2
        replace m3 := (hb3.cell (p := ⟨bx, 3, none⟩) HI.out.2.2.2).trans m3
        replace m4 := (hb3.cell (p := ⟨bx, 4, none⟩) HI.out.2.2.2).trans m4
        have H3 : Hid (OwnInts w3 X.heap.size (.slice ua uk uc) x.vs ∧ Below X.heap.size X w3) := ⟨o3, hb3⟩
        clear o3 b3 hb3 huk m0 m1
        refine hK _ _ ?_
        clear hK K
        refine wpAnyIn_ready (rs := [7]) (by kernel_rfl) (by simp) (AllReadyIn.cons rfl (fun K hK => ?_) AllReadyIn.nil)
        go_simp
        refine ⟨trivial, (callsIn_wide (n := 3)).2 ((snum_any x.ty _ w w3 HT.out.1 (HT.out.2.2.trans (H3.out.2.mono HT.out.2.2.size)) HT.out.2.1).mono ?_)⟩
        rintro e w4 ⟨u4, rfl, o4, b4⟩
        obtain ⟨z0, z1, za, zk, zc, rfl⟩ := isTyP_form o4
        have hb4 : Below X.heap.size X w4 := H3.out.2.trans (b4.mono H3.out.2.size)
        obtain ⟨-, q0, q1, q2, q3, q4, fq, fr⟩ := HC.out w4 (HX.out.2.2.2.2.1.trans (hb4.mono HX.out.2.2.2.2.1.size))
        have H4 : Hid (OwnInts w4 X.heap.size (.slice ua uk uc) x.vs ∧ IsTyP (fun b => X.heap.size ≤ b) w4 x.ty (.agg #[.string z0, .int .i64 z1, .slice za zk zc]) ∧ Below X.heap.size X w4) := ⟨H3.out.1.below b4, isTyP_wide o4 fun b hb _ => Nat.le_trans H3.out.2.size hb, hb4⟩
        clear o4 b4 hb4 m2 m3 m4
        refine hK _ _ ?_
        clear hK K
        refine wpAnyIn_take (i := 8) (v := ?_) rfl rfl (by kernel_rfl) (by kernel_rfl) (by kernel_rfl) (fun _ _ _ h => h) ⟨Or.inl ⟨by rfl, ?_⟩, fun _ => rfl⟩ ?_
        rotate_left
        · (intro w; go_simp); all_goals (with_reducible rfl)
        simp only [List.getElem_toArray, List.getElem_cons_succ, List.getElem_cons_zero, Act.put, List.setIfInBounds_toArray, List.set_cons_zero, List.set_cons_succ]
        refine wpAnyIn_ready (rs := [9]) (by kernel_rfl) (by simp) (AllReadyIn.cons rfl (fun K hK => ?_) AllReadyIn.nil)
        go_simp
        refine hK _ _ ?_
        clear hK K
        refine wpAnyIn_ready (rs := [10]) (by kernel_rfl) (by simp) (AllReadyIn.cons rfl (fun K hK => ?_) AllReadyIn.nil)
        go_simp
        refine hK _ _ ?_
        clear hK K
        refine wpAnyIn_done (by kernel_rfl) ?_ _
        gi_wp2
        exact look_end HE.out.1 (HT.out.2.2.trans (H4.out.2.2.mono HT.out.2.2.size)) H4.out.2.2 HE.out.2.1 HE.out.2.2.1 q0 q1 q2 q3 q4 H4.out.1 HE.out.2.2.2 H4.out.2.1
  case done =>
    rintro d X hd ⟨hb, hI⟩ hdef
    obtain ⟨n0, q0, q1, q2, q3, q4, fq, fr⟩ := HC.out X (HB.out X hb)
    have HX : Hid (lastB l nm = none ∧ Below w.heap.size w X ∧ X.heap[d]? = some (.deferred (some [])) ∧ w.heap.size + 4 ≤ d) := ⟨lastB_none (by simpa using hI), HW.out.1.trans ((HB.out X hb).mono HW.out.1.size), hdef, by have := H0.out.2.1; omega⟩
    clear hd hb hI hdef n0
    gi_wp2
    have hd5 : ∀ (x0 x1 x2 x3 x4 : Value), (((((X.setCell ⟨w.heap.size + 1, 0, none⟩ x0).setCell ⟨w.heap.size + 1, 1, none⟩ x1).setCell ⟨w.heap.size + 1, 2, none⟩ x2).setCell ⟨w.heap.size + 1, 3, none⟩ x3).setCell ⟨w.heap.size + 2, 0, none⟩ x4).heap[d]? = some (.deferred (some [])) := fun x0 x1 x2 x3 x4 => by
      have h1 := HX.out.2.2.2
      rw [Below.heap_setCell _ _ _ _ (by simp; omega), Below.heap_setCell _ _ _ _ (by simp; omega), Below.heap_setCell _ _ _ _ (by simp; omega), Below.heap_setCell _ _ _ _ (by simp; omega), Below.heap_setCell _ _ _ _ (by simp; omega)]
      exact HX.out.2.2.1
    refine ⟨by simp, .inl ⟨_, _, rfl, run_takeDeferred (hd5 _ _ _ _ _), ?_⟩⟩
    have c0 := cell_putObj (o' := .deferred none) (a := ⟨w.heap.size + 1, 0, none⟩) (x := .slice none 0 0) (hd5 (.slice none 0 0) (.string ⟨#[]⟩) (.int .i64 0) (.slice none 0 0) (.bool false)) rfl (by simp [go_sem, q0, q1, q2, q3, q4])
    have c1 := cell_putObj (o' := .deferred none) (a := ⟨w.heap.size + 1, 1, none⟩) (x := .string ⟨#[]⟩) (hd5 (.slice none 0 0) (.string ⟨#[]⟩) (.int .i64 0) (.slice none 0 0) (.bool false)) rfl (by simp [go_sem, q0, q1, q2, q3, q4])
    have c2 := cell_putObj (o' := .deferred none) (a := ⟨w.heap.size + 1, 2, none⟩) (x := .int .i64 0) (hd5 (.slice none 0 0) (.string ⟨#[]⟩) (.int .i64 0) (.slice none 0 0) (.bool false)) rfl (by simp [go_sem, q0, q1, q2, q3, q4])
    have c3 := cell_putObj (o' := .deferred none) (a := ⟨w.heap.size + 1, 3, none⟩) (x := .slice none 0 0) (hd5 (.slice none 0 0) (.string ⟨#[]⟩) (.int .i64 0) (.slice none 0 0) (.bool false)) rfl (by simp [go_sem, q0, q1, q2, q3, q4])
    have c4 := cell_putObj (o' := .deferred none) (a := ⟨w.heap.size + 2, 0, none⟩) (x := .bool false) (hd5 (.slice none 0 0) (.string ⟨#[]⟩) (.int .i64 0) (.slice none 0 0) (.bool false)) rfl (by simp [go_sem, q0, q1, q2, q3, q4])
    refine ⟨.tuple #[.agg #[.slice none 0 0, .string ⟨#[]⟩, .int .i64 0, .slice none 0 0], .bool false], by simp [results, Try.results11, go_sem, c0, c1, c2, c3, c4], ?_, .inr ⟨HX.out.1, rfl⟩⟩
    exact ((below_set4 HX.out.2.1 (by omega) _ _ _ _).setCell (p := ⟨w.heap.size + 2, 0, none⟩) (by simp) _).trans (belowK_b (w := w) (Nat.le_refl _) _ d _ _ (by have := HX.out.2.2.2; omega) (hd5 _ _ _ _ _) rfl rfl)
  case ret =>
    intro d X hd h hdef
    obtain ⟨x, va, vk, vc, s, n, ka, kl, kc, h1, h2, m0, m1, m2, m3, m4, g1, gi, g2⟩ := h
    have HGI : Hid (∀ y ∈ x.vs, Em5.I64 y) := gi
    have HX : Hid (lastB l nm = some x ∧ Below w.heap.size w X ∧ OwnInts X w.heap.size (.slice va vk vc) x.vs ∧ IsTyP (fun b => w.heap.size ≤ b) X x.ty (.agg #[.string s, .int .i64 n, .slice ka kl kc]) ∧ X.heap[d]? = some (.deferred (some [])) ∧ w.heap.size + 4 ≤ d) := ⟨h1, h2, g1, g2, hdef, by have := H0.out.2.1; omega⟩
    clear hd h1 h2 g1 gi g2 hdef
    gi_wp2
    refine ⟨by simp, .inl ⟨_, _, rfl, run_takeDeferred HX.out.2.2.2.2.1, ?_⟩⟩
    have c0 := cell_putObj (o' := .deferred none) HX.out.2.2.2.2.1 rfl m0
    have c1 := cell_putObj (o' := .deferred none) HX.out.2.2.2.2.1 rfl m1
    have c2 := cell_putObj (o' := .deferred none) HX.out.2.2.2.2.1 rfl m2
    have c3 := cell_putObj (o' := .deferred none) HX.out.2.2.2.2.1 rfl m3
    have c4 := cell_putObj (o' := .deferred none) HX.out.2.2.2.2.1 rfl m4
    refine ⟨.tuple #[.agg #[.slice va vk vc, .string s, .int .i64 n, .slice ka kl kc], .bool true], by simp [results, Try.results11, go_sem, c0, c1, c2, c3, c4], ?_, .inl ⟨x, va, vk, vc, s, n, ka, kl, kc, HX.out.1, rfl, HX.out.2.2.1.putObj HX.out.2.2.2.2.1 rfl, HGI.out, isTyP_putObj HX.out.2.2.2.2.1 rfl _ _ HX.out.2.2.2.1⟩⟩
    exact HX.out.2.1.trans (belowK_b (w := w) (Nat.le_refl _) X d _ _ (by have := HX.out.2.2.2.2.2; omega) HX.out.2.2.2.2.1 rfl rfl)
end Go.Proofs.Ytbiihiibebdjgaa

/- The program's own 'attempt' (package unify): its rows; what its method join does. -/
import Derived.Test.YtadhjnbhcenocaaUfA
import Derived.Test.YtadhjnbhcenocaaInts
import Derived.Deep.QuietTactic
import Derived.BigQuiet
import Derived.Deep.DeepCutAuto
import Derived.Deep.CutBlock
namespace Go.Proofs.Ytadhjnbhcenocaa
open Go.RowKit Go.Em8 Go.Em9
set_option linter.unusedSimpArgs false
set_option linter.unusedVariables false

/-- All blocks but those of which Q holds are as they were. -/
structure Kept (Q : Nat → Prop) (w w' : World) : Prop where
  os : w'.os = w.os
  tape : w'.tape = w.tape
  output : w'.output = w.output
  size : w.heap.size ≤ w'.heap.size
  block : ∀ k, k < w.heap.size → ¬ Q k → w'.heap[k]? = w.heap[k]?
theorem Kept.refl (Q : Nat → Prop) (w : World) : Kept Q w w := ⟨rfl, rfl, rfl, Nat.le_refl _, fun _ _ _ => rfl⟩
theorem Kept.of {Q : Nat → Prop} {w w' : World} (h : Below w.heap.size w w') : Kept Q w w' := ⟨h.os, h.tape, h.output, h.size, fun k hk _ => h.block k hk⟩
theorem Kept.trans {Q Q' : Nat → Prop} {u v w : World} (h : Kept Q u v) (k : Kept Q' v w) (hq : ∀ b, b < u.heap.size → Q' b → Q b) : Kept Q u w :=
  ⟨k.os.trans h.os, k.tape.trans h.tape, k.output.trans h.output, Nat.le_trans h.size k.size, fun i hi hn => (k.block i (Nat.lt_of_lt_of_le hi h.size) (fun e => hn (hq i hi e))).trans (h.block i hi hn)⟩
theorem Kept.wide {Q Q' : Nat → Prop} {u v : World} (h : Kept Q u v) (hq : ∀ b, b < u.heap.size → Q b → Q' b) : Kept Q' u v := ⟨h.os, h.tape, h.output, h.size, fun k hk hn => h.block k hk fun e => hn (hq k hk e)⟩
theorem Kept.grown {Q : Nat → Prop} {u v w : World} {row : Option Nat} (h : Kept Q u v) (k : v.grownBy w row) (hq : ∀ b, b < u.heap.size → row = some b → Q b) : Kept Q u w :=
  ⟨k.os.trans h.os, k.tape.trans h.tape, k.output.trans h.output, Nat.le_trans h.size k.size, fun i hi hn => (k.block i (Nat.lt_of_lt_of_le hi h.size) (fun e => hn (hq i hi e.symm))).trans (h.block i hi hn)⟩
theorem Kept.set {Q : Nat → Prop} {u w : World} (h : Kept Q u w) (b o : Nat) (v : Value) (hq : b < u.heap.size → Q b) : Kept Q u (w.setCell ⟨b, o, none⟩ v) :=
  ⟨h.os, h.tape, h.output, by simpa using h.size, fun i hi hn => by
    rw [Below.heap_setCell _ _ _ _ (by simp; rintro rfl; exact hn (hq hi))]
    exact h.block i hi hn⟩
theorem Kept.alloc {Q : Nat → Prop} {u w : World} (h : Kept Q u w) (o : Obj) : Kept Q u (w.alloc o) := h.trans (Q' := Q) (Kept.of ((Below.refl _ _).alloc (Nat.le_refl _) o)) fun _ _ e => e
theorem Kept.drew {Q : Nat → Prop} {u w : World} (h : Kept Q u w) : Kept Q u w.drew := ⟨h.os, h.tape, h.output, h.size, h.block⟩
theorem Kept.drewN {Q : Nat → Prop} {u w : World} (h : Kept Q u w) (n : Nat) : Kept Q u (w.drewN n) := ⟨h.os, h.tape, h.output, h.size, h.block⟩
theorem Kept.below {Q : Nat → Prop} {w w' : World} (h : Kept Q w w') {B : Nat} (hB : B ≤ w.heap.size) (hq : ∀ b, b < B → ¬ Q b) : Below B w w' :=
  ⟨h.os, h.tape, h.output, h.size, fun k hk => h.block k (Nat.lt_of_lt_of_le hk hB) (hq k hk)⟩
theorem Kept.cell {Q : Nat → Prop} {w w' : World} (h : Kept Q w w') {k : Nat} (hk : k < w.heap.size) (hn : ¬ Q k) (o : Nat) : w'.cell? ⟨k, o, none⟩ = w.cell? ⟨k, o, none⟩ := World.cell?_of_block (w := w) (a := ⟨k, o, none⟩) (h.block k hk hn)

/-- Pointers to terms. -/
abbrev ptrs (l : List Nat) : List Value := l.map fun b => Value.pointer (some ⟨b, 0, none⟩)
def OwnPtrs (w : World) (B : Nat) (v : Value) (l : List Nat) : Prop := w.ownsRow B 57 1 v l.length (ptrs l)
theorem infoPtr : (Try.prog.info? 57).map (fun i => (i.zero, i.size, i.bytes)) = some (some (.pointer none), 1, 8) := by kernel_rfl
theorem OwnPtrs.nil (w : World) (B : Nat) : OwnPtrs w B (.slice none 0 0) [] := World.ownsRow_nil w B 57 1
theorem OwnPtrs.form {w : World} {B : Nat} {v : Value} {l : List Nat} (h : OwnPtrs w B v l) : ∃ a c, v = .slice a l.length c := by
  rcases h.2 with ⟨h1, h2⟩ | ⟨g, gc, cur, h1, -⟩
  · exact ⟨none, 0, by rw [h1, h2]⟩
  · exact ⟨_, _, h1⟩
theorem OwnPtrs.keep {w w' : World} {B : Nat} {v : Value} {l : List Nat} (h : OwnPtrs w B v l) (hb : ∀ b, some b = v.ownBlock → w'.heap[b]? = w.heap[b]?) : OwnPtrs w' B v l := by
  refine ⟨h.1, ?_⟩
  rcases h.2 with h1 | ⟨g, gc, cur, h1, h2, h3, h4⟩
  · exact .inl h1
  · exact .inr ⟨g, gc, cur, h1, h2, by rw [hb g (by rw [h1]; rfl)]; exact h3, h4⟩
theorem OwnPtrs.lt {w : World} {B : Nat} {v : Value} {l : List Nat} (h : OwnPtrs w B v l) {k : Nat} (hk : some k = v.ownBlock) : B ≤ k ∧ k < w.heap.size := World.ownsRow.lt h k hk.symm
theorem OwnPtrs.below {w w' : World} {B : Nat} {v : Value} {l : List Nat} (h : OwnPtrs w B v l) (hb : Below w.heap.size w w') : OwnPtrs w' B v l := h.keep fun b hk => hb.block b (h.lt hk).2
/-- What stands in it. -/
theorem OwnPtrs.is {w : World} {B : Nat} {a : Option Addr} {n c : Nat} {l : List Nat} (h : OwnPtrs w B (.slice a n c) l) : n = l.length ∧ l.length ≤ c ∧ c ≤ maxLen ∧ (0 < l.length → ∃ g, a = some ⟨g, 0, none⟩ ∧ B ≤ g ∧ g < w.heap.size ∧ ∀ j k, l[j]? = some k → w.cell? ⟨g, j, none⟩ = some (.pointer (some ⟨k, 0, none⟩))) := by
  rcases h.2 with ⟨h1, h2⟩ | ⟨g, cap, cur, h1, hg, hh, h3, h4, h5, h6⟩
  · cases h1
    exact ⟨h2.symm, by omega, by unfold maxLen; omega, fun hp => by omega⟩
  · cases h1
    refine ⟨rfl, h3, h4, fun _ => ⟨g, rfl, hg, heap_lt9 hh, fun j k hj => ?_⟩⟩
    have := World.ownsRow.cells h (g := g) rfl j (.pointer (some ⟨k, 0, none⟩)) (by rw [List.getElem?_map, hj]; rfl)
    rw [← this]
    unfold Addr.add
    split
    · rename_i h0; subst h0; rfl
    · simp
/-- Such a row as the kids of a term. -/
theorem OwnPtrs.ptrs {w : World} {K : Nat → Prop} {B : Nat} {a : Option Addr} {n c : Nat} {l : List Nat} (h : OwnPtrs w B (.slice a n c) l) (hK : ∀ g, some g = (Value.slice a n c).ownBlock → K g) : IsPtrs w K a c l := by
  obtain ⟨h1, h2, h3, h4⟩ := h.is
  refine ⟨h2, by unfold maxLen at h3; omega, fun hp => ?_⟩
  obtain ⟨g, rfl, -, hg, hc⟩ := h4 hp
  exact ⟨g, rfl, hg, hK g rfl, hc⟩
/-- 'append(l, x)' onto pointers of one's own. -/
theorem wpList_app_ptr {w : World} {ops : Array Oper} {rest : List Oper} {o : Oper} {a : Act} {Q : Exit → Act → World → Prop} (hgd : o.guard = none) (s x : Operand)
    (ho : o.op = .call { callee := .builtin .append, args := #[s, x], argTypes := #[54, 54] })
    (B : Nat) (v : Value) (l : List Nat) (hs : a.eval s = v) (hown : OwnPtrs w B v l) (n : Nat) (g : Nat) (hg : g = w.heap.size)
    (hx : a.eval x = .slice (some ⟨g, 0, none⟩) 1 1) (hsz : l.length ≤ 8796093022208) (hb : B ≤ w.heap.size)
    (h : ∀ v' w', OwnPtrs w' B v' (l ++ [n]) → Grew w w' v v' → wpList Try.prog ops Q rest (a.put o.dst v') w') :
    wpList Try.prog ops Q (o :: rest) a (w.alloc (.cells #[.pointer (some ⟨n, 0, none⟩)] 57)) := by
  obtain ⟨i0, hi, hz0, hz1, hz2⟩ := info_parts infoPtr
  have ho2 : (w.alloc (.cells #[.pointer (some ⟨n, 0, none⟩)] 57)).ownsRow B 57 1 v l.length (Proofs.Ytadhjnbhcenocaa.ptrs l) := World.ownsRow.alloc hown _
  refine wpList_append_own_at _ hgd s x 54 ho B 57 i0 _ 1 8 Try.underlying54 hi hz0 hz1 hz2 rfl (by decide) v _ _ hs ho2 ⟨g, 0, none⟩ 1 1 [.pointer (some ⟨n, 0, none⟩)] hx rfl (cells_one w _ hg _) (by intro u hu; simp only [List.mem_cons, List.not_mem_nil, or_false] at hu; subst hu; rfl) (by unfold maxLen; omega) (by omega) (by simp; omega) ?_
  intro v' w' h2 h3 _ h5
  refine h v' w' ?_ ?_
  · unfold OwnPtrs
    simpa using h2
  · have k1 : Grew w (w.alloc (.cells #[.pointer (some ⟨n, 0, none⟩)] 57)) v v := Grew.of_below ((Below.refl _ _).alloc (Nat.le_refl _) _)
    refine k1.trans ⟨h3, ?_⟩
    rcases h5 with e | e
    · exact .inl e
    · exact .inr ⟨_, e, Nat.le_refl _⟩

/-- The blocks that an attempt itself lies in. -/
def AttOf (ab : Nat) (vv jv : Value) (k : Nat) : Prop := k = ab ∨ some k = vv.ownBlock ∨ some k = jv.ownBlock
/-- In the world w the block ab is an attempt on the Sub in block sb: the vars Vl came with it, the terms J were joined. Its rows are its own, from block B on. -/
structure Att (w : World) (B sb ab : Nat) (N : Int) (vv jv : Value) (Vl : List Int) (J : List Nat) : Prop where
  cells : w.heap[ab]? = some (.cells #[.pointer (some ⟨sb, 0, none⟩), .int .i64 N, vv, jv] 56 (0, 0))
  vars : OwnInts w B vv Vl
  jnd : OwnPtrs w B jv J
  nv : some ab ≠ vv.ownBlock
  nj : some ab ≠ jv.ownBlock
  vj : vv.ownBlock = none ∨ vv.ownBlock ≠ jv.ownBlock
  hB : B ≤ ab
theorem Att.lt {w : World} {B sb ab : Nat} {N : Int} {vv jv : Value} {Vl : List Int} {J : List Nat} (h : Att w B sb ab N vv jv Vl J) {k : Nat} (hk : AttOf ab vv jv k) : B ≤ k ∧ k < w.heap.size := by
  rcases hk with rfl | e | e
  · exact ⟨h.hB, heap_lt9 h.cells⟩
  · exact World.ownsRow.lt h.vars k e.symm
  · exact h.jnd.lt e
theorem ownInts_keep9 {w w' : World} {B : Nat} {v : Value} {l : List Int} (h : OwnInts w B v l) (hb : ∀ b, some b = v.ownBlock → w'.heap[b]? = w.heap[b]?) : OwnInts w' B v l := by
  refine ⟨h.1, ?_⟩
  rcases h.2 with h1 | ⟨g, gc, cur, h1, h2, h3, h4⟩
  · exact .inl h1
  · exact .inr ⟨g, gc, cur, h1, h2, by rw [hb g (by rw [h1]; rfl)]; exact h3, h4⟩
theorem Att.keep {w w' : World} {B sb ab : Nat} {N : Int} {vv jv : Value} {Vl : List Int} {J : List Nat} (h : Att w B sb ab N vv jv Vl J) (hb : ∀ k, AttOf ab vv jv k → w'.heap[k]? = w.heap[k]?) : Att w' B sb ab N vv jv Vl J :=
  ⟨by rw [hb ab (.inl rfl)]; exact h.cells, ownInts_keep9 h.vars fun b e => hb b (.inr (.inl e)), h.jnd.keep fun b e => hb b (.inr (.inr e)), h.nv, h.nj, h.vj, h.hB⟩
theorem Att.below {w w' : World} {B sb ab : Nat} {N : Int} {vv jv : Value} {Vl : List Int} {J : List Nat} (h : Att w B sb ab N vv jv Vl J) (hb : Below w.heap.size w w') : Att w' B sb ab N vv jv Vl J := h.keep fun k hk => hb.block k (h.lt hk).2
theorem Att.get {w : World} {B sb ab : Nat} {N : Int} {vv jv : Value} {Vl : List Int} {J : List Nat} (h : Att w B sb ab N vv jv Vl J) : w.cell? ⟨ab, 0, none⟩ = some (.pointer (some ⟨sb, 0, none⟩)) ∧ w.cell? ⟨ab, 1, none⟩ = some (.int .i64 N) ∧ w.cell? ⟨ab, 2, none⟩ = some vv ∧ w.cell? ⟨ab, 3, none⟩ = some jv ∧ ∀ o, w.frozen? ⟨ab, o, none⟩ = false := by
  have := h.cells
  refine ⟨?_, ?_, ?_, ?_, fun o => ?_⟩ <;> simp [World.cell?, World.frozen?, this]
theorem Att.turn {w w' : World} {B sb ab : Nat} {N : Int} {vv jv : Value} {Vl : List Int} {J : List Nat} (h : Att w B sb ab N vv jv Vl J) {Q : Nat → Prop} (k : Kept Q w w') (hq : ∀ b, AttOf ab vv jv b → ¬ Q b) : Att w' B sb ab N vv jv Vl J := h.keep fun b hb => k.block b (h.lt hb).2 (hq b hb)

theorem Tms.turn {w w' : World} {K : Nat → Prop} {F : Fo} {is : Nat → Option Nat} {cm sn : Nat → Int} (h : Tms w K F is cm sn) {Q : Nat → Prop} (k : Kept Q w w') (hL : ∀ b ∈ F.L, ¬ Q b) (hK : ∀ b, K b → ¬ Q b) : Tms w' K F is cm sn :=
  h.keep k.size (fun b hb => ⟨k.block b (h.lt hb) (hL b hb), (h b hb).1⟩) fun b hb hl => ⟨k.block b hl (hK b hb), hb⟩
theorem Tms.dr {w : World} {K : Nat → Prop} {F : Fo} {is : Nat → Option Nat} {cm sn : Nat → Int} (h : Tms w K F is cm sn) (n : Nat) : Tms (w.drewN n) K F is cm sn := h.below (below_drewN (Below.refl _ _) n)

/-- What 'join' leaves. -/
structure Joined (w w' : World) (K : Nat → Prop) (F : Fo) (is : Nat → Option Nat) (cm sn : Nat → Int) (B sb ab : Nat) (N : Int) (vv jv : Value) (Vl : List Int) (J : List Nat) (x y : Nat) (x' y' : Nat) (jv' : Value) : Prop where
  which : ((x' = x ∧ y' = y) ∨ (x' = y ∧ y' = x)) ∧ (F.var x' ∨ (¬ F.var x ∧ ¬ F.var y))
  tms : Tms w' K F (upd is x' (some y')) cm sn
  att : Att w' B sb ab N vv jv' Vl (J ++ [x'])
  row : jv'.ownBlock = jv.ownBlock ∨ ∃ g, jv'.ownBlock = some g ∧ w.heap.size ≤ g
  kept : Kept (fun k => k = x ∨ k = y ∨ k = ab ∨ some k = jv.ownBlock) w w'

set_option maxRecDepth 100000 in
set_option maxHeartbeats 8000000 in
/-- 'a.join(x, y)'. -/
theorem ujoin_any {w : World} {K : Nat → Prop} {F : Fo} {is : Nat → Option Nat} {cm sn : Nat → Int} (hF : FoOk F) (hT : Tms w K F is cm sn) {B sb ab : Nat} {N : Int} {vv jv : Value} {Vl : List Int} {J : List Nat} (hA : Att w B sb ab N vv jv Vl J)
    (hs : ∀ k, AttOf ab vv jv k → k ∉ F.L ∧ ¬ K k) {x y : Nat} (hx : x ∈ F.L) (hy : y ∈ F.L) (hne : x ≠ y) (hJ : J.length ≤ 1000000) (hB : B ≤ w.heap.size) :
    Calls Try.prog 39 #[.pointer (some ⟨ab, 0, none⟩), .pointer (some ⟨x, 0, none⟩), .pointer (some ⟨y, 0, none⟩)] w fun e w' => e = .returned (.tuple #[]) ∧ ∃ x' y' jv', Joined w w' K F is cm sn B sb ab N vv jv Vl J x y x' y' jv' := by
  have HX : Hid (∀ n, Calls Try.prog 38 #[.pointer (some ⟨x, 0, none⟩)] (w.drewN n) fun e w' => e = .returned (.bool (decide (F.var x))) ∧ w' = w.drewN n) := fun n => uvar_any hF (hT.dr n) hx
  have HY : Hid (∀ n, Calls Try.prog 38 #[.pointer (some ⟨y, 0, none⟩)] (w.drewN n) fun e w' => e = .returned (.bool (decide (F.var y))) ∧ w' = w.drewN n) := fun n => uvar_any hF (hT.dr n) hy
  have HT : Hid (Tms w K F is cm sn ∧ Att w B sb ab N vv jv Vl J) := ⟨hT, hA⟩
  have HS : Hid ((∀ k, AttOf ab vv jv k → k ∉ F.L ∧ ¬ K k) ∧ x ∈ F.L ∧ y ∈ F.L ∧ x ≠ y) := ⟨hs, hx, hy, hne⟩
  obtain ⟨xa, xc, xs, -, -, -, -, x4, -, -, fx, -⟩ := (hT x hx).2.cells
  obtain ⟨ya, yc, ys, -, -, -, -, y4, -, -, fy, -⟩ := (hT y hy).2.cells
  clear hT hA hs hx hy hne hF
  go_enter Try.func39, Try.ntmps39
  go_upto_region 0 with fail
  go_cut [30] from 6 (fun c wx => ∃ (b : Bool) (q : Nat), c = .bool b ∧ Hid (((if b then F.var y else F.var x) ∨ (¬ F.var x ∧ ¬ F.var y))) ∧ wx = w.drewN q)
  case first =>
    obtain ⟨bx, hbx⟩ : ∃ b, b = decide (F.var x) := ⟨_, rfl⟩
    obtain ⟨by_, hby⟩ : ∃ b, b = decide (F.var y) := ⟨_, rfl⟩
    obtain ⟨bc, hbc⟩ : ∃ b, b = decide (ys < xs) := ⟨_, rfl⟩
    rw [← hbx] at HX
    rw [← hby] at HY
    have HW : Hid (((if ((by_ && !bx) || ((by_ == bx) && bc)) then F.var y else F.var x) ∨ (¬ F.var x ∧ ¬ F.var y))) := by
      rw [Hid, hbx, hby]
      by_cases h1 : F.var x <;> by_cases h2 : F.var y <;> cases bc <;> simp [h1, h2]
    have hcd : decide (ys < xs) = bc := hbc.symm
    clear hbx hby hbc
    cases bx <;> cases by_ <;> cases bc
    all_goals
      go_quiet ((go_at_call 38; with_reducible (first | exact Calls.quiet_of_same (HX.out _) | exact Calls.quiet_of_same (HY.out _))))
      go_wp2
      go_meet
      exact ⟨_, _, rfl, HW, rfl⟩
  case rest =>
    obtain ⟨b, q, rfl, HW, hwc⟩ := hcut
    go_upto_if 30 with fail
    go_cut [1, 2] from 6 (fun s1 s2 wx => ∃ (x' y' : Nat), s1 = .pointer (some ⟨x', 0, none⟩) ∧ s2 = .pointer (some ⟨y', 0, none⟩) ∧ Hid (((x' = x ∧ y' = y) ∨ (x' = y ∧ y' = x)) ∧ (F.var x' ∨ (¬ F.var x ∧ ¬ F.var y))) ∧ wx = w.drewN q)
    case first =>
      rw [hwc]
      clear hwc
      cases b
      · go_wp2
        go_meet
        exact ⟨x, y, rfl, rfl, ⟨.inl ⟨rfl, rfl⟩, by simpa using HW.out⟩, rfl⟩
      · go_wp2
        go_meet
        exact ⟨y, x, rfl, rfl, ⟨.inr ⟨rfl, rfl⟩, by simpa using HW.out⟩, rfl⟩
    case rest =>
      clear hwc HW x4 y4 fx fy
      obtain ⟨x', y', rfl, rfl, HW, hwc⟩ := hcut
      rw [hwc]
      clear hwc
      obtain ⟨hT, hA⟩ := HT.out
      obtain ⟨hs, hx, hy, hne⟩ := HS.out
      have hx' : x' ∈ F.L := by rcases HW.out.1 with ⟨rfl, -⟩ | ⟨rfl, -⟩ <;> assumption
      have hy' : y' ∈ F.L := by rcases HW.out.1 with ⟨-, rfl⟩ | ⟨-, rfl⟩ <;> assumption
      have hn' : x' ≠ y' := by
        rcases HW.out.1 with ⟨rfl, rfl⟩ | ⟨rfl, rfl⟩
        · exact hne
        · exact fun e => hne e.symm
      obtain ⟨-, -, -, -, -, -, x3, -, -, -, fx, -⟩ := (hT x' hx').2.cells
      generalize ptrV (is x') = p3 at x3
      obtain ⟨W, hW⟩ : ∃ W, W = (w.drewN q).setCell ⟨x', 3, none⟩ (.pointer (some ⟨y', 0, none⟩)) := ⟨_, rfl⟩
      have tW : Tms W K F (upd is x' (some y')) cm sn := by rw [hW]; exact (hT.dr q).setIs hx' (some y')
      have kW : Kept (fun k => k = x ∨ k = y ∨ k = ab ∨ some k = jv.ownBlock) w W := by
        rw [hW]
        refine ((Kept.refl _ w).drewN q).set x' 3 _ fun _ => ?_
        rcases HW.out.1 with ⟨rfl, -⟩ | ⟨rfl, -⟩
        · exact .inl rfl
        · exact .inr (.inl rfl)
      have aW : Att W B sb ab N vv jv Vl J := by
        rw [hW]
        exact (hA.below (below_drewN (Below.refl _ _) q)).keep fun k hk => Below.heap_setCell _ _ _ _ (by simp; rintro rfl; exact (hs _ hk).1 hx')
      have zW : w.heap.size ≤ W.heap.size := kW.size
      obtain ⟨-, -, xs', -, -, -, -, x4, -, -, -, -⟩ := (tW x' hx').2.cells
      obtain ⟨-, -, ys', -, -, -, -, y4, -, -, fy, -⟩ := (tW y' hy').2.cells
      obtain ⟨X, hX⟩ : ∃ X, X = (W.setCell ⟨y', 4, none⟩ (.int .i64 (wrap64 (ys' + xs')))).drew := ⟨_, rfl⟩
      have tX : Tms X K F (upd is x' (some y')) cm sn := by rw [hX]; exact (tW.setSz hy' _).dr 1
      have kX : Kept (fun k => k = x ∨ k = y ∨ k = ab ∨ some k = jv.ownBlock) w X := by
        rw [hX]
        refine (kW.set y' 4 _ fun _ => ?_).drew
        rcases HW.out.1 with ⟨-, rfl⟩ | ⟨-, rfl⟩
        · exact .inr (.inl rfl)
        · exact .inl rfl
      have aX : Att X B sb ab N vv jv Vl J := by
        rw [hX]
        exact (aW.keep (w' := W.setCell ⟨y', 4, none⟩ (.int .i64 (wrap64 (ys' + xs')))) fun k hk => Below.heap_setCell _ _ _ _ (by simp; rintro rfl; exact (hs _ hk).1 hy')).below (below_drewN (Below.refl _ _) 1)
      obtain ⟨-, -, -, a3, fa⟩ := aX.get
      have HX2 : Hid (Tms X K F (upd is x' (some y')) cm sn ∧ Kept (fun k => k = x ∨ k = y ∨ k = ab ∨ some k = jv.ownBlock) w X ∧ Att X B sb ab N vv jv Vl J) := ⟨tX, kX, aX⟩
      have HWE : Hid ((w.drewN q).setCell ⟨x', 3, none⟩ (.pointer (some ⟨y', 0, none⟩)) = W) := hW.symm
      have HXE : Hid ((W.setCell ⟨y', 4, none⟩ (.int .i64 (wrap64 (ys' + xs')))).drew = X) := hX.symm
      have hBX : B ≤ X.heap.size := Nat.le_trans hB kX.size
      clear hT hA hs hx hy hne tW kW aW zW tX kX aX hW hX HT
      go_upto_region 3 with fail
      rw [HWE.out]
      clear x3
      go_region
      (try simp only [Exit.inBlock, Exit.then])
      rw [HXE.out]
      obtain ⟨ja, jc, hje⟩ := HX2.out.2.2.jnd.form
      have HJE : Hid (jv = .slice ja J.length jc) := hje
      have hnj := HX2.out.2.2.nj
      have HNJ : Hid (some ab ≠ jv.ownBlock) := hnj
      clear hnj x4 y4 fx fy
      rw [hje] at a3
      clear hje
      go_wp2_with (at_builtin; refine wpList_app_ptr rfl _ _ rfl B _ J rfl (by rw [← HJE.out]; exact HX2.out.2.2.jnd) x' _ (by simp) rfl (by omega) hBX ?_; intro v2 w2 o2 hg2; have e0 : w2.cell? ⟨ab, 3, none⟩ = some (.slice ja J.length jc) := hg2.cell (a := ⟨ab, 3, none⟩) a3 (by rw [← HJE.out]; exact HNJ.out); have ef : w2.frozen? ⟨ab, 3, none⟩ = false := (by rw [World.frozen?_of_block (w := X) (a := ⟨ab, 3, none⟩) (hg2.1.block ab (Em.cell_lt a3) (by rw [← HJE.out]; exact HNJ.out))]; exact fa 3); obtain ⟨xa2, xc2, hxe⟩ := o2.form; have hxf : v2 = .slice xa2 (J.length + 1) xc2 := (by rw [hxe]; simp); subst hxf; clear hxe; have HG2 : Hid (Grew X w2 (.slice ja J.length jc) (.slice xa2 (J.length + 1) xc2)) := hg2; have HO2 : Hid (OwnPtrs w2 B (.slice xa2 (J.length + 1) xc2) (J ++ [x'])) := o2; clear o2 hg2)
      (try simp only [Exit.inBlock, Exit.then]); refine bodyPost_end (results_none rfl _ _ _) rfl ?_
      obtain ⟨v2, hv2⟩ : ∃ v2, v2 = Value.slice xa2 (J.length + 1) xc2 := ⟨_, rfl⟩
      have HO2 : Hid (OwnPtrs w2 B v2 (J ++ [x'])) := by rw [hv2]; exact HO2
      rw [← hv2] at HG2 ⊢
      obtain ⟨tX, kX, aX⟩ := HX2.out
      obtain ⟨hs, hx, hy, -⟩ := HS.out
      have hJE := HJE.out
      have hg2 := HG2.out
      rw [← hJE] at hg2
      have hset : ∀ k, k ≠ ab → (w2.setCell ⟨ab, 3, none⟩ v2).heap[k]? = w2.heap[k]? := fun k hk => Below.heap_setCell _ _ _ _ (by simpa using hk)
      have hz : X.heap.size ≤ w2.heap.size := hg2.1.size
      have hab : ab < X.heap.size := heap_lt9 aX.cells
      have sepJ : ∀ k, k ∈ F.L ∨ K k → some k ≠ jv.ownBlock ∧ k ≠ ab := fun k hk => by
        refine ⟨fun e => ?_, fun e => ?_⟩
        · have := hs k (.inr (.inr e)); rcases hk with h | h <;> simp_all
        · have := hs k (.inl e); rcases hk with h | h <;> simp_all
      have n2 : ∀ k, k < w.heap.size → some k ≠ jv.ownBlock → some k ≠ v2.ownBlock := fun k hk hn e => by
        rcases hg2.2 with e2 | ⟨q, e2, hq⟩
        · rw [e2] at e; exact hn e
        · rw [e2] at e; cases e; have := kX.size; omega
      refine ⟨rfl, x', y', v2, HW.out, ?_, ?_, ?_, ?_⟩
      · refine tX.keep (by simpa using hz) (fun b hb => ⟨?_, (tX b hb).1⟩) (fun k hk hl => ⟨?_, hk⟩)
        · rw [hset b (sepJ b (.inl hb)).2]; exact hg2.1.block b (tX.lt hb) (sepJ b (.inl hb)).1
        · rw [hset k (sepJ k (.inr hk)).2]; exact hg2.1.block k hl (sepJ k (.inr hk)).1
      · have hab2 : w2.heap[ab]? = X.heap[ab]? := hg2.1.block ab hab aX.nj
        have hnv2 : some ab ≠ v2.ownBlock := by
          rcases hg2.2 with e2 | ⟨q, e2, hq⟩
          · rw [e2]; exact aX.nj
          · rw [e2]; intro e; cases e; omega
        refine ⟨?_, ownInts_keep9 aX.vars fun b e => ?_, HO2.out.keep fun b e => ?_, aX.nv, hnv2, ?_, aX.hB⟩
        · have h1 := aX.cells
          rw [← hab2] at h1
          exact heap_set9 3 v2 h1
        · have hb := World.ownsRow.lt aX.vars b e.symm
          rw [hset b (by rintro rfl; exact aX.nv e)]
          refine hg2.1.block b hb.2 fun e2 => ?_
          rcases aX.vj with h | h
          · rw [h] at e; cases e
          · exact h (by rw [← e, ← e2])
        · exact hset b (by rintro rfl; exact hnv2 e)
        · rcases aX.vj with h | h
          · exact .inl h
          · rcases hg2.2 with e2 | ⟨q, e2, hq⟩
            · rw [e2]; exact .inr h
            · by_cases h2 : vv.ownBlock = none
              · exact .inl h2
              · obtain ⟨b, hb⟩ := Option.ne_none_iff_exists'.1 h2
                have := World.ownsRow.lt aX.vars b hb
                right; rw [hb, e2]; intro e; cases e; omega
      · rcases hg2.2 with e2 | ⟨q, e2, hq⟩
        · exact .inl e2
        · exact .inr ⟨q, e2, Nat.le_trans kX.size hq⟩
      · exact (kX.grown hg2.1 fun b _ e => .inr (.inr (.inr e.symm))).set ab 3 _ fun _ => .inr (.inr (.inl rfl))
end Go.Proofs.Ytadhjnbhcenocaa

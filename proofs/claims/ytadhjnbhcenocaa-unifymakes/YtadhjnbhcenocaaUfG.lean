/- The program's own Sub (package unify): its map of the vars; what keepVar of an attempt does. -/
import Derived.Test.YtadhjnbhcenocaaUfB
import Derived.Maps.OwnSet
import Derived.Maps.OwnOps
import Derived.Carry
namespace Go.Proofs.Ytadhjnbhcenocaa
open Go.RowKit Go.Em8 Go.Em9
set_option linter.unusedSimpArgs false
set_option linter.unusedVariables false

/-- How a pointer to a term reads, as an element of a map. -/
def ptrElem (v : Value) : Option (DataW Unit × List MemPlace) :=
  match v with
  | .pointer none => some (.lit (.int .i64 (-1)), [])
  | .pointer (some ⟨b, 0, none⟩) => some (.lit (.int .i64 b), [])
  | _ => none
def ptrNum : Option Nat → Int
  | none => -1
  | some b => b
theorem ptrElem_mk (m : Option Nat) : ptrElem (ptrV m) = some (.lit (.int .i64 (ptrNum m)), []) := by cases m <;> rfl
theorem ptrElem_inv {v : Value} {m : Option Nat} {ps : List MemPlace} (h : ptrElem v = some (.lit (.int .i64 (ptrNum m)), ps)) : v = ptrV m := by
  unfold ptrElem at h
  split at h
  · simp only [Option.some.injEq, Prod.mk.injEq, DataW.lit.injEq, Lit.int.injEq] at h
    cases m with
    | none => rfl
    | some b => exfalso; have := h.1.2; simp only [ptrNum] at this; omega
  · simp only [Option.some.injEq, Prod.mk.injEq, DataW.lit.injEq, Lit.int.injEq] at h
    cases m with
    | none => exfalso; have := h.1.2; simp only [ptrNum] at this; omega
    | some b => have := h.1.2; simp only [ptrNum] at this; rw [show b = _ from (Int.ofNat.inj this).symm]; rfl
  · cases h
/-- The map says of each var its term. -/
def VarsOf (D : DataW Unit) (M : Int → Option Nat) : Prop := ∀ x : Int, D.atKey (.int .i64 x) (.lit (.int .i64 (-1))) = .lit (.int .i64 (ptrNum (M x)))
theorem i64_wf9 {x : Int} (hx : Em5.I64 x) : (Lit.int .i64 x).wf = true := by
  unfold Em5.I64 at hx
  simp [Lit.wf, IntKind.min, IntKind.max, IntKind.bits, IntKind.signed]
  omega
theorem key_int9 {x : Int} (hx : Em5.I64 x) : keyOf Try.prog 3 (.int .i64 x) = some (.int .i64 x) := Maps.keyOf_int_mk Try.underlying3 (i64_wf9 hx)
/-- In the world w the block sb is a Sub: fr new vars there were, at_ attempts; M says of each var its term. -/
structure SubS (w : World) (sb : Nat) (mv : Option Nat) (fr at_ : Int) (M : Int → Option Nat) (n : Nat) : Prop where
  cells : w.heap[sb]? = some (.cells #[.int .i64 fr, .map mv, .int .i64 at_] 53 (0, 0))
  map : ∀ mb, mv = some mb → ∃ D, w.ownsMap Try.prog 3 ptrElem mb n D ∧ VarsOf D M
  none : mv = none → ∀ x, M x = none
theorem SubS.lt {w : World} {sb : Nat} {mv : Option Nat} {fr at_ : Int} {M : Int → Option Nat} {n : Nat} (h : SubS w sb mv fr at_ M n) : sb < w.heap.size ∧ ∀ mb, mv = some mb → mb < w.heap.size ∧ mb ≠ sb := by
  refine ⟨heap_lt9 h.cells, fun mb e => ?_⟩
  obtain ⟨D, h1, -⟩ := h.map mb e
  refine ⟨h1.lt, ?_⟩
  rintro rfl
  obtain ⟨es, clock, hb, -⟩ := h1
  rw [h.cells] at hb; cases hb
theorem SubS.keep {w w' : World} {sb : Nat} {mv : Option Nat} {fr at_ : Int} {M : Int → Option Nat} {n : Nat} (h : SubS w sb mv fr at_ M n) {Q : Nat → Prop} (hk : Kept Q w w') (h0 : ¬ Q sb) (h1 : ∀ mb, mv = some mb → ¬ Q mb) : SubS w' sb mv fr at_ M n := by
  refine ⟨by rw [hk.block sb h.lt.1 h0]; exact h.cells, fun mb e => ?_, h.none⟩
  obtain ⟨D, g1, g2⟩ := h.map mb e
  refine ⟨D, ?_, g2⟩
  obtain ⟨es, clock, hb, F, hs, hD⟩ := g1
  exact ⟨es, clock, by rw [hk.block mb (h.lt.2 mb e).1 (h1 mb e)]; exact hb, F, hs, hD⟩
theorem SubS.below {w w' : World} {sb : Nat} {mv : Option Nat} {fr at_ : Int} {M : Int → Option Nat} {n : Nat} (h : SubS w sb mv fr at_ M n) (hb : Below w.heap.size w w') : SubS w' sb mv fr at_ M n := h.keep (Q := fun _ => False) (Kept.of hb) id fun _ _ => id
theorem SubS.get {w : World} {sb : Nat} {mv : Option Nat} {fr at_ : Int} {M : Int → Option Nat} {n : Nat} (h : SubS w sb mv fr at_ M n) : w.cell? ⟨sb, 0, .none⟩ = some (.int .i64 fr) ∧ w.cell? ⟨sb, 1, .none⟩ = some (.map mv) ∧ w.cell? ⟨sb, 2, .none⟩ = some (.int .i64 at_) ∧ ∀ o, w.frozen? ⟨sb, o, .none⟩ = false := by
  have := h.cells
  refine ⟨?_, ?_, ?_, fun o => ?_⟩ <;> simp [World.cell?, World.frozen?, this]
/-- 's.terms[x]'. -/
theorem SubS.look {w : World} {sb : Nat} {mv : Option Nat} {fr at_ : Int} {M : Int → Option Nat} {n : Nat} (h : SubS w sb mv fr at_ M n) {x : Int} (hx : Em5.I64 x) : Sem.run Try.prog (Instr.lookup 51 (.map mv) (.int .i64 x) false) w = .ok (ptrV (M x)) w := by
  cases hm : mv with
  | none =>
    have := Maps.look_nil (w := w) (P := Try.prog) (t := 51) false (Maps.int_keyed Try.underlying3) Try.underlying51 (z := .pointer .none) (Try.zeroValue57 _) (key_int9 hx)
    rw [h.none hm x]
    exact this
  | some mb =>
    obtain ⟨D, h1, h2⟩ := h.map mb hm
    obtain ⟨v, ps, hrun, hat⟩ := h1.lookup (t := 51) (Maps.int_keyed Try.underlying3) Try.underlying51 (Try.zeroValue57 _) (zd := .lit (.int .i64 (-1))) (zp := []) rfl (key_int9 hx)
    rw [h2 x] at hat
    rw [hrun, ptrElem_inv hat]
/-- 's.terms[x] = t'. -/
theorem SubS.put {w : World} {sb mb : Nat} {fr at_ : Int} {M : Int → Option Nat} {n : Nat} (h : SubS w sb (some mb) fr at_ M n) {x : Int} (hx : Em5.I64 x) (t : Nat) (hn : n ≤ 1000000) :
    ∃ w', Sem.run Try.prog (Instr.mapUpdate 51 (.map (some mb)) (.int .i64 x) (.pointer (some ⟨t, 0, .none⟩))) w = .ok () w' ∧ SubS w' sb (some mb) fr at_ (fun y => if y = x then some t else M y) (n + 1) ∧ w.grownBy w' (some mb) := by
  obtain ⟨D, h1, h2⟩ := h.map mb rfl
  obtain ⟨w', r1, r2, r3⟩ := h1.update (t := 51) (e := 57) (Maps.int_keyed Try.underlying3) Try.underlying51 (by unfold maxLen; omega) (val := ptrV (some t)) (key_int9 hx) (ptrElem_mk (some t))
  have hne := (h.lt.2 mb rfl).2
  refine ⟨w', r1, ⟨?_, fun mb' e => ?_, fun e => by cases e⟩, r3⟩
  · rw [r3.block sb h.lt.1 (fun e => hne (Option.some.inj e).symm)]; exact h.cells
  · cases e
    refine ⟨_, r2, fun y => ?_⟩
    by_cases hy : y = x
    · subst hy
      rw [Maps.atKey_put_same h1.isMap (k := .int .i64 y) trivial]
      simp
    · rw [Maps.atKey_put_other (fun e => hy (by injection e)), h2 y]
      simp [hy]
/-- A nil map is made one. -/
theorem SubS.made {w : World} {sb : Nat} {fr at_ : Int} {M : Int → Option Nat} {n g : Nat} (h : SubS w sb Option.none fr at_ M n) (hg : g = w.heap.size) : SubS ((w.alloc (.map #[] 0)).setCell ⟨sb, 1, .none⟩ (.map (some g))) sb (some g) fr at_ M n := by
  subst hg
  have hl := h.lt.1
  have hb : (w.alloc (.map #[] 0)).heap[sb]? = some (.cells #[.int .i64 fr, .map .none, .int .i64 at_] 53 (0, 0)) := by rw [heap_alloc_old w _ hl]; exact h.cells
  refine ⟨heap_set9 1 _ hb, fun mb e => ?_, fun e => by cases e⟩
  cases e
  have m1 : (w.alloc (.map #[] 0)).ownsMap Try.prog 3 ptrElem w.heap.size 0 (.map []) := World.ownsMap_made w _ _ _
  refine ⟨_, (m1.mono (Nat.zero_le n)).setCell (a := ⟨sb, 1, .none⟩) (Nat.ne_of_gt hl) _, fun x => ?_⟩
  rw [h.none rfl x]
  simp [DataW.atKey, ptrNum]

/-- What an attempt has by then: the terms, where each leads, when it came, when it was seen; what the map says; the blocks of kids' rows. -/
structure S9 where
  F : Fo
  is : Nat → Option Nat
  cm : Nat → Int
  sn : Nat → Int
  M : Int → Option Nat
  mv : Option Nat
  vv : Value
  Vl : List Int
  n : Nat
  K : Nat → Prop
structure S9Ok (w : World) (B sb ab : Nat) (fr N : Int) (jv : Value) (J : List Nat) (s : S9) : Prop where
  tms : Tms w s.K s.F s.is s.cm s.sn
  sub : SubS w sb s.mv fr N s.M s.n
  att : Att w B sb ab N s.vv jv s.Vl J
  fo : FoOk s.F
  map : MapOk s.F s.M
  sepS : sb ∉ s.F.L ∧ ¬ s.K sb
  sepM : ∀ mb, s.mv = some mb → mb ∉ s.F.L ∧ ¬ s.K mb
  sepA : ∀ k, AttOf ab s.vv jv k → k ∉ s.F.L ∧ ¬ s.K k ∧ k ≠ sb ∧ some k ≠ s.mv
  kl : ∀ k, s.K k → k < w.heap.size
  nl : s.n ≤ 2 * s.F.L.length
  vl : s.Vl.length ≤ s.F.L.length
  i64 : ∀ x ∈ s.Vl, Em5.I64 x
/-- From one to the next, from the block h on; N: the attempt. -/
structure Ext (h : Nat) (N : Int) (s s' : S9) : Prop where
  old : ∀ b ∈ s.F.L, b ∈ s'.F.L ∧ s'.F.ty b = s.F.ty b ∧ s'.F.ks b = s.F.ks b ∧ s'.is b = s.is b ∧ s'.cm b = s.cm b ∧ s'.sn b = s.sn b
  new : ∀ b ∈ s'.F.L, b ∈ s.F.L ∨ (h ≤ b ∧ s'.is b = none ∧ s'.cm b = N ∧ s'.sn b = 0)
  K : ∀ k, s.K k → s'.K k
  K' : ∀ k, s'.K k → s.K k ∨ h ≤ k
  mv : s'.mv = s.mv ∨ (s.mv = none ∧ ∃ g, s'.mv = some g ∧ h ≤ g)
  vv : s'.vv.ownBlock = s.vv.ownBlock ∨ ∃ g, s'.vv.ownBlock = some g ∧ h ≤ g
  M : ∀ x b, s.M x = some b → s'.M x = some b
theorem Ext.refl (h : Nat) (N : Int) (s : S9) : Ext h N s s := ⟨fun b hb => ⟨hb, rfl, rfl, rfl, rfl, rfl⟩, fun b hb => .inl hb, fun _ h => h, fun _ h => .inl h, .inl rfl, .inl rfl, fun _ _ h => h⟩
theorem Ext.trans {h h' : Nat} {N : Int} {s s1 s2 : S9} (hh : h ≤ h') (a : Ext h N s s1) (b : Ext h' N s1 s2) : Ext h N s s2 := by
  refine ⟨fun x hx => ?_, fun x hx => ?_, fun k hk => b.K k (a.K k hk), fun k hk => ?_, ?_, ?_, fun x y hx => b.M x y (a.M x y hx)⟩
  · obtain ⟨a1, a2, a3, a4, a5, a6⟩ := a.old x hx
    obtain ⟨b1, b2, b3, b4, b5, b6⟩ := b.old x a1
    exact ⟨b1, b2.trans a2, b3.trans a3, b4.trans a4, b5.trans a5, b6.trans a6⟩
  · rcases b.new x hx with g | ⟨g1, g2⟩
    · rcases a.new x g with e | ⟨e1, e2, e3, e4⟩
      · exact .inl e
      · obtain ⟨-, -, -, b4, b5, b6⟩ := b.old x g
        exact .inr ⟨e1, b4.trans e2, b5.trans e3, b6.trans e4⟩
    · exact .inr ⟨Nat.le_trans hh g1, g2⟩
  · rcases b.K' k hk with g | g
    · exact a.K' k g
    · exact .inr (Nat.le_trans hh g)
  · rcases b.mv with e | ⟨e, g, e2, hg⟩
    · rw [e]; exact a.mv
    · rcases a.mv with e1 | ⟨-, g', e1, -⟩
      · exact .inr ⟨by rw [← e1]; exact e, g, e2, Nat.le_trans hh hg⟩
      · rw [e] at e1; cases e1
  · rcases b.vv with e | ⟨g, e2, hg⟩
    · rw [e]; exact a.vv
    · exact .inr ⟨g, e2, Nat.le_trans hh hg⟩
/-- The blocks that may turn while types are kept. -/
def KeepQ (sb ab : Nat) (s : S9) (k : Nat) : Prop := k = sb ∨ some k = s.mv ∨ k = ab ∨ some k = s.vv.ownBlock
theorem S9Ok.keepQ {w : World} {B sb ab : Nat} {fr N : Int} {jv : Value} {J : List Nat} {s : S9} (h : S9Ok w B sb ab fr N jv J s) {k : Nat} (hk : k ∈ s.F.L ∨ s.K k) : ¬ KeepQ sb ab s k := by
  rintro (rfl | e | rfl | e)
  · rcases hk with hk | hk
    · exact h.sepS.1 hk
    · exact h.sepS.2 hk
  · obtain ⟨h1, h2⟩ := h.sepM k e.symm
    rcases hk with hk | hk
    · exact h1 hk
    · exact h2 hk
  · obtain ⟨h1, h2, -⟩ := h.sepA k (.inl rfl)
    rcases hk with hk | hk
    · exact h1 hk
    · exact h2 hk
  · obtain ⟨h1, h2, -⟩ := h.sepA k (.inr (.inl e))
    rcases hk with hk | hk
    · exact h1 hk
    · exact h2 hk
theorem Ext.keepQ {h : Nat} {N : Int} {sb ab : Nat} {s s' : S9} (e : Ext h N s s') {k : Nat} (hk : KeepQ sb ab s' k) : KeepQ sb ab s k ∨ h ≤ k := by
  rcases hk with rfl | hk | rfl | hk
  · exact .inl (.inl rfl)
  · rcases e.mv with e2 | ⟨-, g, e2, hg⟩
    · exact .inl (.inr (.inl (by rw [← e2]; exact hk)))
    · rw [e2] at hk; cases hk; exact .inr hg
  · exact .inl (.inr (.inr (.inl rfl)))
  · rcases e.vv with e2 | ⟨g, e2, hg⟩
    · exact .inl (.inr (.inr (.inr (by rw [← e2]; exact hk))))
    · rw [e2] at hk; cases hk; exact .inr hg
theorem S9Ok.below {w w' : World} {B sb ab : Nat} {fr N : Int} {jv : Value} {J : List Nat} {s : S9} (h : S9Ok w B sb ab fr N jv J s) (hb : Below w.heap.size w w') : S9Ok w' B sb ab fr N jv J s :=
  ⟨h.tms.below hb, h.sub.below hb, h.att.below hb, h.fo, h.map, h.sepS, h.sepM, h.sepA, fun k hk => Nat.lt_of_lt_of_le (h.kl k hk) hb.size, h.nl, h.vl, h.i64⟩

/-- A new var's term. -/
def addVar (s : S9) (x : Int) (N : Int) (b g : Nat) (vv : Value) : S9 :=
  { F := ⟨s.F.L ++ [b], upd s.F.ty b (tv x), upd s.F.ks b []⟩, is := upd s.is b none, cm := upd s.cm b N, sn := upd s.sn b 0, M := fun y => if y = x then some b else s.M y, mv := some g, vv := vv, Vl := s.Vl ++ [x], n := s.n + 1, K := s.K }
theorem foOk_add {F : Fo} (h : FoOk F) {b : Nat} (hb : b ∉ F.L) {t : Ty} {ks : List Nat} (ht : Em8.teach t = true) (hk : ∀ k ∈ ks, k ∈ F.L) (hkt : ks.map F.ty = t.kids) (hone : t.op = tVar → ∀ c ∈ F.L, F.ty c ≠ t) : FoOk ⟨F.L ++ [b], upd F.ty b t, upd F.ks b ks⟩ := by
  have hty : ∀ c ∈ F.L, upd F.ty b t c = F.ty c := fun c hc => upd_else _ _ (by rintro rfl; exact hb hc)
  have hks : ∀ c ∈ F.L, upd F.ks b ks c = F.ks c := fun c hc => upd_else _ _ (by rintro rfl; exact hb hc)
  have mapty : ∀ l : List Nat, (∀ k ∈ l, k ∈ F.L) → l.map (upd F.ty b t) = l.map F.ty := fun l hl => List.map_congr_left fun k hk => hty k (hl k hk)
  refine ⟨fun c hc k hk2 => ?_, fun c hc => ?_, fun c hc => ?_, fun c hc d hd hv he => ?_⟩
  · simp only at hk2 ⊢
    rcases List.mem_append.1 hc with hc | hc
    · rw [hks c hc] at hk2; exact List.mem_append.2 (.inl (h.kid c hc k hk2))
    · simp only [List.mem_singleton] at hc
      subst hc; rw [upd_same] at hk2; exact List.mem_append.2 (.inl (hk k hk2))
  · simp only
    rcases List.mem_append.1 hc with hc | hc
    · rw [hks c hc, hty c hc, mapty _ (h.kid c hc)]; exact h.tys c hc
    · simp only [List.mem_singleton] at hc
      subst hc; rw [upd_same, upd_same, mapty _ hk]; exact hkt
  · simp only
    rcases List.mem_append.1 hc with hc | hc
    · rw [hty c hc]; exact h.teach c hc
    · simp only [List.mem_singleton] at hc
      subst hc; rw [upd_same]; exact ht
  · simp only [Fo.var] at hv he
    rcases List.mem_append.1 hc with hc' | hc'
    · rcases List.mem_append.1 hd with hd' | hd'
      · rw [hty c hc'] at hv he; rw [hty d hd'] at he
        exact h.one c hc' d hd' hv he
      · simp only [List.mem_singleton] at hd'
        rw [hd', upd_same, hty c hc'] at he
        rw [hty c hc'] at hv
        exact absurd he (hone (by rw [← he]; exact hv) c hc')
    · simp only [List.mem_singleton] at hc'
      rcases List.mem_append.1 hd with hd' | hd'
      · rw [hc', upd_same, hty d hd'] at he
        rw [hc', upd_same] at hv
        exact absurd he.symm (hone hv d hd')
      · simp only [List.mem_singleton] at hd'
        rw [hc', hd']
theorem tms_add {w w' : World} {K K' : Nat → Prop} {F : Fo} {is : Nat → Option Nat} {cm sn : Nat → Int} (h : Tms w K F is cm sn) {b : Nat} (hb : b ∉ F.L) {t : Ty} {ks : List Nat} {i : Option Nat} {c s : Int} (hs : w.heap.size ≤ w'.heap.size) (h0 : ∀ b ∈ F.L, w'.heap[b]? = w.heap[b]? ∧ ¬ K' b) (hK : ∀ k, K k → k < w.heap.size → w'.heap[k]? = w.heap[k]? ∧ K' k) (hbK : ¬ K' b) (hT : TmAt w' K' b t.op t.n ks i c s) : Tms w' K' ⟨F.L ++ [b], upd F.ty b t, upd F.ks b ks⟩ (upd is b i) (upd cm b c) (upd sn b s) := by
  intro d hd
  simp only at hd ⊢
  rcases List.mem_append.1 hd with hd' | hd'
  · have hne : d ≠ b := by intro e; rw [e] at hd'; exact hb hd'
    rw [upd_else _ _ hne, upd_else _ _ hne, upd_else _ _ hne, upd_else _ _ hne, upd_else _ _ hne]
    exact (h.keep hs h0 hK) d hd'
  · simp only [List.mem_singleton] at hd'
    rw [hd']
    rw [upd_same, upd_same, upd_same, upd_same, upd_same]
    exact ⟨hbK, hT⟩
end Go.Proofs.Ytadhjnbhcenocaa

/- What 'keepVar' of an attempt does (package unify). -/
import Derived.Test.YtadhjnbhcenocaaUfG
import Derived.Deep.RegionHeld
namespace Go.Proofs.Ytadhjnbhcenocaa
open Go.RowKit Go.Em8 Go.Em9
set_option linter.unusedSimpArgs false
set_option linter.unusedVariables false

/-- What a var's or a type's keeping leaves. -/
structure KeptAs (w w' : World) (B sb ab : Nat) (fr N : Int) (jv : Value) (J : List Nat) (s s' : S9) (t : Ty) (b : Nat) : Prop where
  ok : S9Ok w' B sb ab fr N jv J s'
  ext : Ext w.heap.size N s s'
  mem : b ∈ s'.F.L
  ty : s'.F.ty b = t
  kept : Kept (KeepQ sb ab s) w w'
  len : s'.F.L.length ≤ s.F.L.length + t.size
  reach : ∀ P : Nat → Prop, (∀ c ∈ s'.F.L, P c → ∀ k ∈ s'.F.ks c, P k) → P b → ∀ c ∈ s'.F.L, c ∉ s.F.L → P c
  dom : ∀ y, s'.M y ≠ none → s.M y ≠ none ∨ tocc y t

theorem mapEqSome (mb : Nat) (w : World) : (binOp .eql 51 (.map (some mb)) (.map none)).run Try.prog w = .ok (.bool false) w := by kernel_rfl
theorem mapEqNil (w : World) : (binOp .eql 51 (.map none) (.map none)).run Try.prog w = .ok (.bool true) w := by kernel_rfl
/-- With a map there. -/
theorem S9Ok.withMap {w W : World} {B sb ab g : Nat} {fr N : Int} {jv : Value} {J : List Nat} {s : S9} (h : S9Ok w B sb ab fr N jv J s) (hm : s.mv = none) (hB : B ≤ w.heap.size) (hg : g = w.heap.size) (hW : W = (w.alloc (.map #[] 0)).setCell ⟨sb, 1, none⟩ (.map (some g))) : S9Ok W B sb ab fr N jv J { s with mv := some g } ∧ Ext w.heap.size N s { s with mv := some g } ∧ Kept (KeepQ sb ab s) w W := by
  subst hg
  have hk : Kept (fun k => k = sb) w W := by rw [hW]; exact ((Kept.refl _ w).alloc _).set sb 1 _ fun _ => rfl
  have hs := h.sub
  rw [hm] at hs
  have hsub := hs.made (g := w.heap.size) rfl
  rw [← hW] at hsub
  refine ⟨⟨h.tms.turn hk (fun b hb => ?_) (fun b hb => ?_), hsub, h.att.turn hk fun b hb => (h.sepA b hb).2.2.1, h.fo, h.map, h.sepS, fun mb e => ?_, fun k hk2 => ?_, fun k hk2 => Nat.lt_of_lt_of_le (h.kl k hk2) hk.size, h.nl, h.vl, h.i64⟩, ⟨fun b hb => ⟨hb, rfl, rfl, rfl, rfl, rfl⟩, fun b hb => .inl hb, fun _ h => h, fun _ h => .inl h, .inr ⟨hm, w.heap.size, rfl, Nat.le_refl _⟩, .inl rfl, fun _ _ h => h⟩, hk.wide fun b _ e => .inl e⟩
  · rintro rfl; exact h.sepS.1 hb
  · rintro rfl; exact h.sepS.2 hb
  · cases e
    exact ⟨fun hm2 => Nat.lt_irrefl _ (h.tms.lt hm2), fun hm2 => Nat.lt_irrefl _ (h.kl _ hm2)⟩
  · obtain ⟨h1, h2, h3, -⟩ := h.sepA k hk2
    refine ⟨h1, h2, h3, fun e => ?_⟩
    cases e
    exact Nat.lt_irrefl _ (h.att.lt hk2).2

/-- A var's term was made, the map written, the var noted. -/
theorem kv_after {w V W w1 w2 : World} {B sb ab g : Nat} {fr N : Int} {jv v2 : Value} {J : List Nat} {s : S9} {x : Int} (h1 : S9Ok V B sb ab fr N jv J { s with mv := some g }) (h2 : Ext w.heap.size N s { s with mv := some g }) (h3 : Kept (KeepQ sb ab s) w V) (hx : Em5.I64 x) (hx0 : 0 ≤ x) (hM : s.M x = none)
    (bW : Below V.heap.size V W) (hblk : W.heap[V.heap.size]? = some (.cells (tmC tVar x none 0 0 none 1 N 0) 66 (0, 0))) (hsub : SubS w1 sb (some g) fr N (fun y => if y = x then some V.heap.size else s.M y) (s.n + 1)) (hgr : W.grownBy w1 (some g)) (ho : OwnInts w2 B v2 (s.Vl ++ [x])) (hg : Grew w1 w2 s.vv v2) :
    KeptAs w (w2.setCell ⟨ab, 2, none⟩ v2) B sb ab fr N jv J s (addVar s x N V.heap.size g v2) (tv x) V.heap.size := by
  have hlt : V.heap.size < w1.heap.size := Nat.lt_of_lt_of_le (heap_lt9 hblk) hgr.size
  have KV : Kept (fun k => k = g ∨ k = ab ∨ some k = s.vv.ownBlock) V (w2.setCell ⟨ab, 2, none⟩ v2) :=
    (((Kept.of bW).grown hgr fun b _ e => .inl (Option.some.inj e).symm).grown hg.1 fun b _ e => .inr (.inr e.symm)).set ab 2 _ fun _ => .inr (.inl rfl)
  have hgl : g < V.heap.size := (h1.sub.lt.2 g rfl).1
  have hal : ab < V.heap.size := (h1.att.lt (.inl rfl)).2
  have hvl : ∀ k, some k = s.vv.ownBlock → k < V.heap.size := fun k hk => (h1.att.lt (.inr (.inl hk))).2
  have hnL : V.heap.size ∉ s.F.L := fun h => Nat.lt_irrefl _ (h1.tms.lt h)
  have hnK : ¬ s.K V.heap.size := fun h => Nat.lt_irrefl _ (h1.kl _ h)
  have hfar : ∀ k, k ∈ s.F.L ∨ s.K k → ¬ (k = g ∨ k = ab ∨ some k = s.vv.ownBlock) := by
    rintro k hk (rfl | rfl | e)
    · obtain ⟨e1, e2⟩ := h1.sepM k rfl
      rcases hk with hk | hk
      · exact e1 hk
      · exact e2 hk
    · obtain ⟨e1, e2, -⟩ := h1.sepA k (.inl rfl)
      rcases hk with hk | hk
      · exact e1 hk
      · exact e2 hk
    · obtain ⟨e1, e2, -⟩ := h1.sepA k (.inr (.inl e))
      rcases hk with hk | hk
      · exact e1 hk
      · exact e2 hk
  have hb3 : (w2.setCell ⟨ab, 2, none⟩ v2).heap[V.heap.size]? = some (.cells (tmC tVar x none 0 0 none 1 N 0) 66 (0, 0)) := by
    rw [Below.heap_setCell _ _ _ _ (by simp; omega), hg.1.block _ hlt (fun e => by have := hvl _ e; omega), hgr.block _ (heap_lt9 hblk) (fun e => by cases e; omega)]
    exact hblk
  have habs : ab ≠ sb ∧ some ab ≠ (some g : Option Nat) := ⟨(h1.sepA ab (.inl rfl)).2.2.1, (h1.sepA ab (.inl rfl)).2.2.2⟩
  have hvv : ∀ k, some k = s.vv.ownBlock → k ≠ sb ∧ some k ≠ (some g : Option Nat) := fun k hk => ⟨(h1.sepA k (.inr (.inl hk))).2.2.1, (h1.sepA k (.inr (.inl hk))).2.2.2⟩
  have hnv2 : some ab ≠ v2.ownBlock := by
    rcases hg.2 with e2 | ⟨q, e2, hq⟩
    · rw [e2]; exact h1.att.nv
    · rw [e2]; intro e; cases e; omega
  have habw1 : w1.heap[ab]? = V.heap[ab]? := (hgr.block ab (Nat.lt_of_lt_of_le hal bW.size) habs.2).trans (bW.block ab hal)
  have hab2 : w2.heap[ab]? = V.heap[ab]? := (hg.1.block ab (by omega) h1.att.nv).trans habw1
  have hset : ∀ k, k ≠ ab → (w2.setCell ⟨ab, 2, none⟩ v2).heap[k]? = w2.heap[k]? := fun k hk => Below.heap_setCell _ _ _ _ (by simpa using hk)
  refine ⟨⟨?_, ?_, ⟨?_, ?_, ?_, hnv2, h1.att.nj, ?_, h1.att.hB⟩, ?_, ⟨fun y b hy => ?_, fun b hb hv => ?_⟩, ⟨?_, h1.sepS.2⟩, fun mb e => ?_, fun k hk => ?_, fun k hk => Nat.lt_of_lt_of_le (h1.kl k hk) KV.size, ?_, ?_, ?_⟩, ?_, by simp [addVar], upd_same _ _ _, ?_, ?_, ?_, ?_⟩
  · exact tms_add h1.tms hnL (K' := s.K) (t := tv x) (ks := []) KV.size (fun b hb => ⟨KV.block b (h1.tms.lt hb) (hfar b (.inl hb)), (h1.tms b hb).1⟩) (fun k hk hl => ⟨KV.block k hl (hfar k (.inr hk)), hk⟩) hnK ⟨none, 0, 1, hb3, ⟨by simp, by simp, by simp⟩, (show Em5.Txt tVar from ⟨by decide, by decide⟩), hx⟩
  · refine hsub.keep (Q := fun k => k = ab ∨ some k = s.vv.ownBlock) (((Kept.refl _ w1).grown hg.1 fun b _ e => .inr e.symm).set ab 2 _ fun _ => .inl rfl) ?_ fun mb e => ?_
    · rintro (e | e)
      · exact habs.1 e.symm
      · exact (hvv _ e).1 rfl
    · cases e
      rintro (e | e)
      · exact habs.2 (by rw [e])
      · exact (hvv _ e).2 rfl
  · have e := h1.att.cells
    rw [← hab2] at e
    exact heap_set9 2 v2 e
  · refine ownInts_keep9 ho fun b e => hset b ?_
    rintro rfl; exact hnv2 e
  · refine (h1.att.jnd.keep (w' := w2) fun b e => ?_).keep fun b e => hset b ?_
    · have hb := h1.att.lt (.inr (.inr e))
      rw [hg.1.block b (by omega) (fun e2 => ?_), hgr.block b (Nat.lt_of_lt_of_le hb.2 bW.size) ?_, bW.block b hb.2]
      · exact (h1.sepA b (.inr (.inr e))).2.2.2
      · rcases h1.att.vj with h | h
        · simp only at h; rw [h] at e2; cases e2
        · exact h (by simp only; rw [← e, ← e2])
    · rintro rfl; exact h1.att.nj e
  · rcases hg.2 with e2 | ⟨q, e2, hq⟩
    · show v2.ownBlock = none ∨ v2.ownBlock ≠ jv.ownBlock
      rw [e2]; exact h1.att.vj
    · right
      show v2.ownBlock ≠ jv.ownBlock
      rw [e2]; intro e
      have := (h1.att.lt (.inr (.inr e))).2; omega
  · refine foOk_add h1.fo hnL (by simp [tv, Em8.teach, teachs, tkids, tVar, tInt, tBool, tUnit, tString, tCell, hx0]) (by simp) (by simp [tv, Ty.kids]) fun _ c hc e => ?_
    have := h1.map.all c hc (by show (s.F.ty c).op = tVar; rw [show s.F.ty c = tv x from e]; rfl)
    rw [show ({ s with mv := some g } : S9).F.ty c = tv x from e] at this
    rw [show ({ s with mv := some g } : S9).M (tv x).n = s.M x from rfl, hM] at this
    cases this
  · simp only [addVar] at hy ⊢
    by_cases e : y = x
    · rw [if_pos e] at hy; cases hy
      exact ⟨by simp, by rw [upd_same, e]⟩
    · rw [if_neg e] at hy
      obtain ⟨g1, g2⟩ := h1.map.mem y b hy
      exact ⟨List.mem_append.2 (.inl g1), by rw [upd_else _ _ (by rintro rfl; exact hnL g1)]; exact g2⟩
  · simp only [addVar, Fo.var] at hb hv ⊢
    rcases List.mem_append.1 hb with hb' | hb'
    · have hne : b ≠ V.heap.size := by rintro rfl; exact hnL hb'
      rw [upd_else _ _ hne] at hv ⊢
      have := h1.map.all b hb' hv
      simp only at this
      by_cases e : (s.F.ty b).n = x
      · rw [e, hM] at this; cases this
      · rw [if_neg e]; exact this
    · simp only [List.mem_singleton] at hb'
      rw [hb', upd_same]
      exact if_pos rfl
  · simp only [addVar]
    intro h
    rcases List.mem_append.1 h with h | h
    · exact h1.sepS.1 h
    · simp only [List.mem_singleton] at h; have := h1.sub.lt.1; omega
  · cases e
    refine ⟨fun h => ?_, (h1.sepM g rfl).2⟩
    simp only [addVar] at h
    rcases List.mem_append.1 h with h | h
    · exact (h1.sepM g rfl).1 h
    · simp only [List.mem_singleton] at h; omega
  · have base : ∀ k, k < V.heap.size → AttOf ab s.vv jv k → k ∉ s.F.L ++ [V.heap.size] ∧ ¬ s.K k ∧ k ≠ sb ∧ some k ≠ (some g : Option Nat) := fun k hl hA => by
      obtain ⟨e1, e2, e3, e4⟩ := h1.sepA k hA
      refine ⟨fun h => ?_, e2, e3, e4⟩
      rcases List.mem_append.1 h with h | h
      · exact e1 h
      · simp only [List.mem_singleton] at h; omega
    rcases hk with rfl | e | e
    · exact base _ hal (.inl rfl)
    · rcases hg.2 with e2 | ⟨q, e2, hq⟩
      · have e3 : some k = s.vv.ownBlock := by rw [← e2]; exact e
        exact base k (hvl k e3) (.inr (.inl e3))
      · have e3 : k = q := by
          have : some k = v2.ownBlock := e
          rw [e2] at this; exact Option.some.inj this
        subst e3
        refine ⟨fun h => ?_, fun h => ?_, ?_, fun h => ?_⟩
        · rcases List.mem_append.1 h with h | h
          · have := h1.tms.lt h; omega
          · simp only [List.mem_singleton] at h; omega
        · have := h1.kl k h; omega
        · rintro rfl; have := h1.sub.lt.1; omega
        · have := Option.some.inj h; omega
    · exact base k (h1.att.lt (.inr (.inr e))).2 (.inr (.inr e))
  · have := h1.nl
    simp only [addVar, List.length_append, List.length_cons, List.length_nil] at this ⊢
    omega
  · have := h1.vl
    simp only [addVar, List.length_append, List.length_cons, List.length_nil] at this ⊢
    omega
  · intro y hy
    simp only [addVar] at hy
    rcases List.mem_append.1 hy with hy | hy
    · exact h1.i64 y hy
    · simp only [List.mem_singleton] at hy
      rw [hy]; exact hx
  · have hold : ∀ b ∈ s.F.L, b ≠ V.heap.size := fun b hb e => hnL (e ▸ hb)
    refine h2.trans h3.size (s2 := addVar s x N V.heap.size g v2) ⟨fun b hb => ?_, fun b hb => ?_, fun _ h => h, fun _ h => .inl h, .inl rfl, ?_, fun y b hy => ?_⟩
    · have hne := hold b hb
      exact ⟨List.mem_append.2 (.inl hb), upd_else _ _ hne, upd_else _ _ hne, upd_else _ _ hne, upd_else _ _ hne, upd_else _ _ hne⟩
    · simp only [addVar] at hb ⊢
      rcases List.mem_append.1 hb with hb | hb
      · exact .inl hb
      · simp only [List.mem_singleton] at hb
        rw [hb, upd_same, upd_same, upd_same]
        exact .inr ⟨Nat.le_refl _, rfl, rfl, rfl⟩
    · rcases hg.2 with e2 | ⟨q, e2, hq⟩
      · exact .inl e2
      · exact .inr ⟨q, e2, by omega⟩
    · show (if y = x then some V.heap.size else s.M y) = some b
      rw [if_neg (by rintro rfl; exact absurd (hM.symm.trans hy) (by simp))]
      exact hy
  · refine h3.trans KV fun b hb e => ?_
    rcases e with rfl | rfl | e
    · rcases h2.mv with e2 | ⟨-, g', e2, hg'⟩
      · exact .inr (.inl (by rw [← e2]))
      · cases e2; omega
    · exact .inr (.inr (.inl rfl))
    · exact .inr (.inr (.inr e))
  · simp [addVar, tv, Ty.size, tsizes]
  · intro P _ hP c hc hn
    simp only [addVar] at hc
    rcases List.mem_append.1 hc with hc | hc
    · exact absurd hc hn
    · simp only [List.mem_singleton] at hc
      rw [hc]; exact hP
  · intro y hy
    simp only [addVar] at hy
    by_cases e : y = x
    · right; rw [tocc_tv, e]
    · rw [if_neg e] at hy; exact .inl hy

set_option maxRecDepth 100000 in
set_option maxHeartbeats 4000000 in
/-- 'a.keepVar(x)'. -/
theorem ukv_any {w : World} {B sb ab : Nat} {fr N : Int} {jv : Value} {J : List Nat} {s : S9} (h : S9Ok w B sb ab fr N jv J s) {x : Int} (hx : Em5.I64 x) (hx0 : 0 ≤ x) (hB : B ≤ w.heap.size) (hL : s.F.L.length ≤ 100000) (hN : Em5.I64 N) :
    Calls Try.prog 36 #[.pointer (some ⟨ab, 0, none⟩), .int .i64 x] w fun e w' => ∃ b s', e = .returned (.pointer (some ⟨b, 0, none⟩)) ∧ KeptAs w w' B sb ab fr N jv J s s' (tv x) b := by
  have HH : Hid (S9Ok w B sb ab fr N jv J s) := h
  have HX : Hid (Em5.I64 x ∧ 0 ≤ x ∧ s.F.L.length ≤ 100000 ∧ Em5.I64 N) := ⟨hx, hx0, hL, hN⟩
  obtain ⟨a0, a1, a2, -, fa⟩ := h.att.get
  obtain ⟨-, s1, -, fs⟩ := h.sub.get
  have hlook := h.sub.look hx
  cases hM : s.M x with
  | some b =>
    obtain ⟨mb, hmv⟩ : ∃ mb, s.mv = some mb := by
      cases hm : s.mv with
      | none => rw [h.sub.none hm x] at hM; cases hM
      | some mb => exact ⟨mb, rfl⟩
    rw [hM, hmv, ptr_some] at hlook
    rw [hmv] at s1
    have HM : Hid (s.M x = some b) := hM
    have hes := mapEqSome mb w
    clear h hx hx0 hL hN hM hmv
    go_enter Try.func36, Try.ntmps36
    go_wp2_with fail
    go_ret
    obtain ⟨g1, g2⟩ := HH.out.map.mem x b HM.out
    exact ⟨b, s, rfl, HH.out, Ext.refl _ _ _, g1, g2, Kept.refl _ _, by simp [tv, Ty.size, tsizes], fun P _ _ c hc hn => absurd hc hn, fun y hy => .inl hy⟩
  | none =>
    have HM : Hid (s.M x = none) := hM
    have HMV : Hid (∀ mb, s.mv = some mb → True) := fun _ _ => trivial
    rw [hM, ptr_none] at hlook
    clear h hx hx0 hL hN hM
    go_enter Try.func36, Try.ntmps36
    have HS1 : Hid (w.cell? ⟨sb, 1, none⟩ = some (.map s.mv)) := s1
    go_upto_region 2 with fail
    have fs1 := fs 1
    go_cut [14] (fun c wx => ∃ q, c = .bool q ∧ Hid (q = decide (s.mv = none)) ∧ wx = w)
    case first =>
      cases hm : s.mv with
      | none =>
        have HMM : Hid (s.mv = none) := hm
        rw [hm] at s1
        have hen := mapEqNil w
        clear hm hlook
        go_wp2_with fail
        go_meet
        exact ⟨true, rfl, by rw [Hid, HMM.out]; rfl, rfl⟩
      | some mb =>
        have HMM : Hid (s.mv = some mb) := hm
        rw [hm] at s1
        have hen := mapEqSome mb w
        clear hm hlook
        go_wp2_with fail
        go_meet
        exact ⟨false, rfl, by rw [Hid, HMM.out]; rfl, rfl⟩
    case rest =>
      obtain ⟨q, rfl, HQ, hwc⟩ := hcut
      rw [hwc]
      clear hwc
      go_upto_if 14 with fail
      go_cut [] (fun wx => ∃ g, Hid (S9Ok wx B sb ab fr N jv J { s with mv := some g } ∧ Ext w.heap.size N s { s with mv := some g } ∧ Kept (KeepQ sb ab s) w wx))
      case first =>
        clear hlook
        cases q with
        | true =>
          have hm : s.mv = none := of_decide_eq_true HQ.out.symm
          have HMM : Hid (s.mv = none) := hm
          rw [hm] at s1
          clear hm
          have hba : (w.alloc (.map #[] 0)).heap[sb]? = w.heap[sb]? := heap_alloc_old w _ HH.out.sub.lt.1
          have fs2 : (w.alloc (.map #[] 0)).frozen? ⟨sb, 1, none⟩ = false := by rw [World.frozen?_of_block (w := w) (a := ⟨sb, 1, none⟩) hba]; exact fs1
          have s2 : (w.alloc (.map #[] 0)).cell? ⟨sb, 1, none⟩ = some (.map none) := by rw [World.cell?_of_block (w := w) (a := ⟨sb, 1, none⟩) hba]; exact s1
          clear hba s1 fs1
          have hm1 : ∀ w, Sem.run Try.prog (Instr.makeMap 51 none) w = .ok (.map (some w.heap.size)) (w.alloc (.map #[] 0)) := run_makeMap _
          go_wp2_with fail
          go_meet
          exact ⟨w.heap.size, HH.out.withMap HMM.out hB rfl rfl⟩
        | false =>
          obtain ⟨mb, hm⟩ : ∃ mb, s.mv = some mb := Option.ne_none_iff_exists'.1 (of_decide_eq_false HQ.out.symm)
          have HMM : Hid (s.mv = some mb) := hm
          clear hm
          go_wp2_with fail
          go_meet
          have e : { s with mv := some mb } = s := by rw [← HMM.out]
          refine ⟨mb, ?_⟩
          rw [e]
          exact ⟨HH.out, Ext.refl _ _ _, Kept.refl _ _⟩
      case rest =>
        obtain ⟨g, HC⟩ := hcut
        obtain ⟨V, hV⟩ : ∃ V, V = wc := ⟨_, rfl⟩
        rw [← hV] at HC ⊢
        clear hV a0 a1 a2 fa s1 fs fs1 hlook HS1 HQ
        obtain ⟨h1, h2, h3⟩ := HC.out
        obtain ⟨a0, a1, a2, -, fa⟩ := h1.att.get
        obtain ⟨-, s1, -, -⟩ := h1.sub.get
        have hlook := h1.sub.look HX.out.1
        have hl2 : ptrV (({ s with mv := some g } : S9).M x) = .pointer none := by rw [show ({ s with mv := some g } : S9).M x = s.M x from rfl, HM.out]; rfl
        rw [hl2] at hlook
        simp only at a2 s1 hlook
        obtain ⟨W, hW⟩ : ∃ W, W = (V.alloc (.cells #[.string ⟨#[118, 97, 114]⟩, .int .i64 x, .slice none 0 0, .pointer none, .int .i64 1, .int .i64 N, .int .i64 0] 66)).drew := ⟨_, rfl⟩
        have bW : Below V.heap.size V W := by rw [hW]; exact ((Below.refl _ _).alloc (Nat.le_refl _) _).drew
        have hsubW := h1.sub.below bW
        obtain ⟨w1, hput, hsub1, hgr⟩ := hsubW.put HX.out.1 V.heap.size (by have := h1.nl; have := HX.out.2.2.1; simp only at this ⊢; simp only at *; omega)
        have HPUT : Hid (SubS w1 sb (some g) fr N (fun y => if y = x then some V.heap.size else s.M y) (s.n + 1) ∧ W.grownBy w1 (some g) ∧ Below V.heap.size V W ∧ W.heap[V.heap.size]? = some (.cells (tmC tVar x none 0 0 none 1 N 0) 66 (0, 0))) := ⟨hsub1, hgr, bW, by rw [hW]; exact heap_alloc_new V _⟩
        have s1W : W.cell? ⟨sb, 1, none⟩ = some (.map (some g)) := by rw [bW.cell (p := ⟨sb, 1, none⟩) (Em.cell_lt s1)]; exact s1
        have a1W : W.cell? ⟨ab, 1, none⟩ = some (.int .i64 N) := by rw [bW.cell (p := ⟨ab, 1, none⟩) (Em.cell_lt a1)]; exact a1
        rw [hW] at hput s1W a1W
        clear h1 h2 h3 hl2 hW bW hsubW hsub1 hgr
        have HAFT : Hid (∀ v2 w2, OwnInts w2 B v2 (s.Vl ++ [x]) → Grew w1 w2 s.vv v2 → KeptAs w (w2.setCell ⟨ab, 2, none⟩ v2) B sb ab fr N jv J s (addVar s x N V.heap.size g v2) (tv x) V.heap.size) := fun v2 w2 o g2 =>
          kv_after HC.out.1 HC.out.2.1 HC.out.2.2 HX.out.1 HX.out.2.1 HM.out HPUT.out.2.2.1 HPUT.out.2.2.2 HPUT.out.1 HPUT.out.2.1 o g2
        have HOI : Hid (OwnInts w1 B s.vv s.Vl ∧ some ab ≠ s.vv.ownBlock ∧ B ≤ w1.heap.size ∧ s.Vl.length ≤ 200000) := by
          obtain ⟨p1, p2, p3, p4⟩ := HPUT.out
          have hA := HC.out.1.att
          refine ⟨ownInts_keep9 hA.vars fun b e => ?_, hA.nv, ?_, ?_⟩
          · have hb := hA.lt (.inr (.inl e))
            rw [p2.block b (Nat.lt_of_lt_of_le hb.2 p3.size) (fun e2 => (HC.out.1.sepA b (.inr (.inl e))).2.2.2 e2)]
            exact p3.block b hb.2
          · have := HC.out.2.2.size; have := p3.size; have := p2.size; omega
          · have := HC.out.1.vl; have := HX.out.2.2.1; simp only at *; omega
        have hw1 : ∀ o, w1.cell? ⟨ab, o, none⟩ = V.cell? ⟨ab, o, none⟩ := fun o => by
          obtain ⟨p1, p2, p3, p4⟩ := HPUT.out
          have hl := Em.cell_lt a1
          refine World.cell?_of_block (a := ⟨ab, o, none⟩) ((p2.block ab (Nat.lt_of_lt_of_le hl p3.size) (fun e => (HC.out.1.sepA ab (.inl rfl)).2.2.2 e)).trans (p3.block ab hl))
        have c2 : w1.cell? ⟨ab, 2, none⟩ = some s.vv := by rw [hw1]; exact a2
        have f2 : w1.frozen? ⟨ab, 2, none⟩ = false := by
          obtain ⟨p1, p2, p3, p4⟩ := HPUT.out
          have hl := Em.cell_lt a1
          rw [World.frozen?_of_block (w := V) (a := ⟨ab, 2, none⟩) ((p2.block ab (Nat.lt_of_lt_of_le hl p3.size) (fun e => (HC.out.1.sepA ab (.inl rfl)).2.2.2 e)).trans (p3.block ab hl))]
          exact fa 2
        obtain ⟨va, vc, hve⟩ := HOI.out.1.form
        have HVE : Hid (s.vv = .slice va s.Vl.length vc) := hve
        rw [hve] at c2
        clear hve hw1 a2
        have HC2 : Hid (w1.cell? ⟨ab, 2, none⟩ = some (.slice va s.Vl.length vc) ∧ w1.frozen? ⟨ab, 2, none⟩ = false) := ⟨c2, f2⟩
        go_upto_region 5 with fail
        go_region
        (try simp only [Exit.inBlock, Exit.then])
        clear hput s1W a1W hlook a0 a1 fa s1
        go_wp2_with (at_builtin; refine wpList_app_int rfl _ _ rfl B _ s.Vl rfl (by rw [← HVE.out]; exact HOI.out.1) x _ (by simp) rfl (by have := HOI.out.2.2.2; omega) HOI.out.2.2.1 ?_; intro v2 w2 o2 hg2; obtain ⟨xa2, xc2, hxe⟩ := o2.form; have hxf : v2 = .slice xa2 (s.Vl.length + 1) xc2 := (by rw [hxe]; simp); subst hxf; clear hxe; have e0 : w2.cell? ⟨ab, 2, none⟩ = some (.slice va s.Vl.length vc) := hg2.cell (a := ⟨ab, 2, none⟩) HC2.out.1 (by rw [← HVE.out]; exact HOI.out.2.1); have ef : w2.frozen? ⟨ab, 2, none⟩ = false := (by rw [World.frozen?_of_block (w := w1) (a := ⟨ab, 2, none⟩) (hg2.1.block ab (Em.cell_lt HC2.out.1) (by rw [← HVE.out]; exact HOI.out.2.1))]; exact HC2.out.2); have HR := HAFT.out _ _ o2 (by rw [HVE.out]; exact hg2); have HR : Hid (KeptAs w (w2.setCell ⟨ab, 2, none⟩ (.slice xa2 (s.Vl.length + 1) xc2)) B sb ab fr N jv J s (addVar s x N V.heap.size g (.slice xa2 (s.Vl.length + 1) xc2)) (tv x) V.heap.size) := HR; have hl2 := HR.out.ok.sub.look HX.out.1; have hm2 : (addVar s x N V.heap.size g (.slice xa2 (s.Vl.length + 1) xc2)).M x = some V.heap.size := if_pos rfl; rw [hm2, ptr_some] at hl2; have hm3 : (addVar s x N V.heap.size g (.slice xa2 (s.Vl.length + 1) xc2)).mv = some g := rfl; rw [hm3] at hl2; have s12 := HR.out.ok.sub.get.2.1; rw [hm3] at s12; clear hm2 hm3 o2 hg2)
        go_ret
        exact ⟨_, _, rfl, HR.out⟩
end Go.Proofs.Ytadhjnbhcenocaa

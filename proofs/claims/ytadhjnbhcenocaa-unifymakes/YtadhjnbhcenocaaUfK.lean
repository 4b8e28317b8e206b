/- What 'keep' of an attempt does (package unify). -/
import Derived.Test.YtadhjnbhcenocaaUfH
import Derived.Test.YtadhjnbhcenocaaTyV
import Derived.Deep.RegionLaw
namespace Go.Proofs.Ytadhjnbhcenocaa
open Go.RowKit Go.Em8 Go.Em9
set_option linter.unusedSimpArgs false
set_option linter.unusedVariables false

set_option maxRecDepth 100000 in
set_option maxHeartbeats 2000000 in
/-- 'isVar(t)'. -/
theorem uisv_any {w : World} {T : Ty} {v : Value} (h : IsTy w T v) (ht : Em8.teach T = true) :
    Calls Try.prog 32 #[v] w fun e w' => e = .returned (.bool (decide (T.op = tVar))) ∧ Below w.heap.size w w' := by
  obtain ⟨op, n, l⟩ := T
  unfold IsTy at h
  obtain ⟨a, cap, rfl, htx, -⟩ := h
  have hq := Em5.str_eq htx.1 [118, 97, 114]
  have HB : Hid (Below w.heap.size w (w.alloc (.cells #[.string (Em.str op), .int .i64 n, .slice a l.length cap] 25))) := (Below.refl _ _).alloc (Nat.le_refl _) _
  show Calls Try.prog 32 _ w fun e w' => e = .returned (.bool (decide (op = tVar))) ∧ _
  by_cases ho : op = tVar
  · subst ho
    obtain rfl := var_nil ht
    rw [decide_eq_true rfl]
    rw [decide_eq_true (show tVar = List.map (fun c : UInt8 => (c.toNat : Int)) [118, 97, 114] from rfl)] at hq
    simp only [List.length_nil] at HB ⊢
    clear ht htx
    go_enter Try.func32, Try.ntmps32
    go_wp2
    go_ret
    exact ⟨rfl, HB.out⟩
  · rw [decide_eq_false ho]
    rw [decide_eq_false (show op ≠ List.map (fun c : UInt8 => (c.toNat : Int)) [118, 97, 114] from ho)] at hq
    clear ht htx ho
    go_enter Try.func32, Try.ntmps32
    go_wp2
    go_ret
    exact ⟨rfl, HB.out⟩

theorem KeptAs.from {w W w' : World} {B sb ab : Nat} {fr N : Int} {jv : Value} {J : List Nat} {s s' : S9} {t : Ty} {b : Nat} (h : KeptAs W w' B sb ab fr N jv J s s' t b) (hb : Below w.heap.size w W) : KeptAs w w' B sb ab fr N jv J s s' t b :=
  ⟨h.ok, (Ext.refl w.heap.size N s).trans hb.size h.ext, h.mem, h.ty, (Kept.of hb).trans h.kept fun _ _ e => e, h.len, h.reach, h.dom⟩

/-- While a type's kids are kept: the term xb is being made, its row kv holds the terms row; all are those that were kept. -/
structure KpI (w wr : World) (B sb ab : Nat) (fr N : Int) (jv : Value) (J : List Nat) (s : S9) (op : List Int) (n : Int) (xb : Nat) (s1 : S9) (kv : Value) (row all : List Nat) (dn : List Ty) : Prop where
  ok : S9Ok wr B sb ab fr N jv J s1
  ext : Ext w.heap.size N s s1
  kept : Kept (KeepQ sb ab s) w wr
  x : ∃ ka kc, kv = .slice ka row.length kc ∧ wr.heap[xb]? = some (.cells (tmC op n ka row.length kc none 1 N 0) 66 (0, 0))
  own : OwnPtrs wr w.heap.size kv row
  sep : ∀ k, (k = xb ∨ some k = kv.ownBlock) → w.heap.size ≤ k ∧ k < wr.heap.size ∧ k ∉ s1.F.L ∧ ¬ s1.K k ∧ k ≠ sb ∧ some k ≠ s1.mv ∧ ¬ AttOf ab s1.vv jv k
  nx : some xb ≠ kv.ownBlock
  tys : all.map s1.F.ty = dn
  mem : ∀ k ∈ all, k ∈ s1.F.L
  len : s1.F.L.length ≤ s.F.L.length + tsizes dn
  reach : ∀ P : Nat → Prop, (∀ c ∈ s1.F.L, P c → ∀ k ∈ s1.F.ks c, P k) → (∀ k ∈ all, P k) → ∀ c ∈ s1.F.L, c ∉ s.F.L → P c
  dom : ∀ y, s1.M y ≠ none → s.M y ≠ none ∨ ∃ t ∈ dn, tocc y t
section
variable {w wr w3 w4 : World} {B sb ab : Nat} {fr N : Int} {jv : Value} {J : List Nat} {s s1 s2 : S9} {op : List Int} {n : Int} {xb : Nat} {kv kv2 : Value} {row all : List Nat} {dn : List Ty}
theorem KpI.below (h : KpI w wr B sb ab fr N jv J s op n xb s1 kv row all dn) (hb : Below wr.heap.size wr w3) : KpI w w3 B sb ab fr N jv J s op n xb s1 kv row all dn := by
  obtain ⟨ka, kc, e1, e2⟩ := h.x
  refine ⟨h.ok.below hb, h.ext, h.kept.trans (Q' := fun _ => False) (Kept.of hb) fun _ _ e => e.elim, ⟨ka, kc, e1, by rw [hb.block xb (heap_lt9 e2)]; exact e2⟩, h.own.below hb, fun k hk => ?_, h.nx, h.tys, h.mem, h.len, h.reach, h.dom⟩
  obtain ⟨g1, g2, g3⟩ := h.sep k hk
  exact ⟨g1, Nat.lt_of_lt_of_le g2 hb.size, g3⟩
/-- A kid was kept. -/
theorem KpI.call (h : KpI w wr B sb ab fr N jv J s op n xb s1 kv row all dn) {t : Ty} {b : Nat} (k : KeptAs wr w3 B sb ab fr N jv J s1 s2 t b) : KpI w w3 B sb ab fr N jv J s op n xb s2 kv row (all ++ [b]) (dn ++ [t]) := by
  obtain ⟨ka, kc, e1, e2⟩ := h.x
  have notQ : ∀ k, (k = xb ∨ some k = kv.ownBlock) → ¬ KeepQ sb ab s1 k := by
    intro q hq
    obtain ⟨-, -, g3, g4, g5, g6, g7⟩ := h.sep q hq
    rintro (e | e | e | e)
    · exact g5 e
    · exact g6 e
    · exact g7 (.inl e)
    · exact g7 (.inr (.inl e))
  refine ⟨k.ok, h.ext.trans h.kept.size k.ext, h.kept.trans k.kept fun q hq e => ?_, ⟨ka, kc, e1, by rw [k.kept.block xb (heap_lt9 e2) (notQ xb (.inl rfl))]; exact e2⟩, h.own.keep fun q hq => k.kept.block q (h.own.lt hq).2 (notQ q (.inr hq)), fun q hq => ?_, h.nx, ?_, fun q hq => ?_, ?_, fun P hc hP c hcL hn => ?_, fun y hy => ?_⟩
  · rcases h.ext.keepQ e with g | g
    · exact g
    · omega
  · obtain ⟨g1, g2, g3, g4, g5, g6, g7⟩ := h.sep q hq
    refine ⟨g1, Nat.lt_of_lt_of_le g2 k.kept.size, fun hm => ?_, fun hm => ?_, g5, fun e => ?_, fun hA => ?_⟩
    · rcases k.ext.new q hm with e | ⟨e, -⟩
      · exact g3 e
      · omega
    · rcases k.ext.K' q hm with e | e
      · exact g4 e
      · omega
    · rcases k.ext.mv with e3 | ⟨-, g, e3, hg⟩
      · exact g6 (by rw [← e3]; exact e)
      · rw [e3] at e; cases e; omega
    · rcases hA with e | e | e
      · exact g7 (.inl e)
      · rcases k.ext.vv with e3 | ⟨g, e3, hg⟩
        · exact g7 (.inr (.inl (by rw [← e3]; exact e)))
        · rw [e3] at e; cases e; omega
      · exact g7 (.inr (.inr e))
  · rw [List.map_append, ← h.tys]
    congr 1
    · exact List.map_congr_left fun q hq => (k.ext.old q (h.mem q hq)).2.1
    · simp only [List.map_cons, List.map_nil]; rw [k.ty]
  · rcases List.mem_append.1 hq with hq | hq
    · exact (k.ext.old q (h.mem q hq)).1
    · simp only [List.mem_singleton] at hq
      rw [hq]; exact k.mem
  · have h1 := h.len
    have h2 := k.len
    rw [tsizes_app]
    simp only [tsizes]; omega
  · by_cases hc1 : c ∈ s1.F.L
    · refine h.reach P (fun d hd hPd q hq => ?_) (fun q hq => hP q (List.mem_append.2 (.inl hq))) c hc1 hn
      obtain ⟨d1, -, d3, -⟩ := k.ext.old d hd
      exact hc d d1 hPd q (by rw [d3]; exact hq)
    · exact k.reach P hc (hP b (List.mem_append.2 (.inr (by simp)))) c hcL hc1
  · rcases k.dom y hy with e | e
    · rcases h.dom y e with g | ⟨u, hu, g⟩
      · exact .inl g
      · exact .inr ⟨u, List.mem_append.2 (.inl hu), g⟩
    · exact .inr ⟨t, List.mem_append.2 (.inr (by simp)), e⟩
/-- It was laid into the row. -/
theorem KpI.app (h : KpI w w3 B sb ab fr N jv J s op n xb s1 kv row all dn) {row2 : List Nat} (ho : OwnPtrs w4 w.heap.size kv2 row2) (hg : Grew w3 w4 kv kv2) : KpI w (w4.setCell ⟨xb, 2, none⟩ kv2) B sb ab fr N jv J s op n xb s1 kv2 row2 all dn := by
  obtain ⟨ka, kc, e1, e2⟩ := h.x
  have hxlt := heap_lt9 e2
  have KV : Kept (fun k => k = xb ∨ some k = kv.ownBlock) w3 (w4.setCell ⟨xb, 2, none⟩ kv2) := ((Kept.refl _ w3).grown hg.1 fun b _ e => .inr e.symm).set xb 2 _ fun _ => .inl rfl
  have hnx : some xb ≠ kv2.ownBlock := by
    rcases hg.2 with e3 | ⟨q, e3, hq⟩
    · rw [e3]; exact h.nx
    · rw [e3]; intro e; cases e; omega
  have hx4 : w4.heap[xb]? = w3.heap[xb]? := hg.1.block xb hxlt h.nx
  obtain ⟨ka2, kc2, e3⟩ := ho.form
  refine ⟨⟨h.ok.tms.turn KV (fun b hb e => (h.sep b e).2.2.1 hb) (fun b hb e => (h.sep b e).2.2.2.1 hb), h.ok.sub.keep KV (fun e => (h.sep sb e).2.2.2.2.1 rfl) (fun mb e1 e => (h.sep mb e).2.2.2.2.2.1 e1.symm), h.ok.att.turn KV fun b hb e => (h.sep b e).2.2.2.2.2.2 hb, h.ok.fo, h.ok.map, h.ok.sepS, h.ok.sepM, h.ok.sepA, fun k hk => Nat.lt_of_lt_of_le (h.ok.kl k hk) KV.size, h.ok.nl, h.ok.vl, h.ok.i64⟩,
    h.ext, h.kept.trans KV fun q hq e => absurd (h.sep q e).1 (by omega), ⟨ka2, kc2, e3, ?_⟩, ho.keep fun q hq => Below.heap_setCell _ _ _ _ (by simp; rintro rfl; exact hnx hq), fun q hq => ?_, hnx, h.tys, h.mem, h.len, h.reach, h.dom⟩
  · rw [← hx4] at e2
    rw [e3]
    exact heap_set9 2 _ e2
  · rcases hq with rfl | hq
    · obtain ⟨g1, g2, g3⟩ := h.sep q (.inl rfl)
      exact ⟨g1, Nat.lt_of_lt_of_le g2 KV.size, g3⟩
    · rcases hg.2 with e4 | ⟨q2, e4, hq2⟩
      · obtain ⟨g1, g2, g3⟩ := h.sep q (.inr (by rw [← e4]; exact hq))
        exact ⟨g1, Nat.lt_of_lt_of_le g2 KV.size, g3⟩
      · have hlt := ho.lt hq
        rw [e4] at hq; cases hq
        have hs := h.kept.size
        refine ⟨hlt.1, by simpa using hlt.2, fun hm => ?_, fun hm => ?_, ?_, fun e => ?_, fun hA => ?_⟩
        · have := h.ok.tms.lt hm; omega
        · have := h.ok.kl _ hm; omega
        · rintro rfl; have := h.ok.sub.lt.1; omega
        · have := (h.ok.sub.lt.2 _ e.symm).1; omega
        · have := (h.ok.att.lt hA).2; omega

/-- A new term. -/
def addTm (s : S9) (t : Ty) (N : Int) (b : Nat) (ks : List Nat) (kv : Value) : S9 :=
  { F := ⟨s.F.L ++ [b], upd s.F.ty b t, upd s.F.ks b ks⟩, is := upd s.is b none, cm := upd s.cm b N, sn := upd s.sn b 0, M := s.M, mv := s.mv, vv := s.vv, Vl := s.Vl, n := s.n, K := fun k => s.K k ∨ some k = kv.ownBlock }
/-- The kids are all there. -/
theorem KpI.fin {l : List Ty} (h : KpI w wr B sb ab fr N jv J s op n xb s1 kv all all l) (ht : Em8.teach (.mk op n l) = true) (ho : op ≠ tVar) (htx : Em5.Txt op) (hn : Em5.I64 n) : KeptAs w wr B sb ab fr N jv J s (addTm s1 (.mk op n l) N xb all kv) (.mk op n l) xb := by
  obtain ⟨ka, kc, e1, e2⟩ := h.x
  have hx := h.sep xb (.inl rfl)
  have hold : ∀ b ∈ s1.F.L, b ≠ xb := fun b hb e => hx.2.2.1 (e ▸ hb)
  have rowNot : ∀ k, some k = kv.ownBlock → k ∉ s1.F.L ++ [xb] ∧ k ≠ sb ∧ some k ≠ s1.mv ∧ ¬ AttOf ab s1.vv jv k := fun k hk => by
    obtain ⟨g1, g2, g3, g4, g5, g6, g7⟩ := h.sep k (.inr hk)
    refine ⟨fun hm => ?_, g5, g6, g7⟩
    rcases List.mem_append.1 hm with hm | hm
    · exact g3 hm
    · simp only [List.mem_singleton] at hm
      rw [hm] at hk; exact h.nx hk
  have own' : OwnPtrs wr w.heap.size (.slice ka all.length kc) all := by rw [← e1]; exact h.own
  refine ⟨⟨?_, h.ok.sub, h.ok.att, ?_, ⟨fun y b hy => ?_, fun b hb hv => ?_⟩, ⟨fun hm => ?_, ?_⟩, fun mb e => ⟨fun hm => ?_, ?_⟩, fun k hk => ⟨fun hm => ?_, ?_, (h.ok.sepA k hk).2.2.1, (h.ok.sepA k hk).2.2.2⟩, fun k hk => ?_, ?_, ?_, h.ok.i64⟩, ?_, by simp [addTm], upd_same _ _ _, h.kept, ?_, fun P hc hP c hcL hn2 => ?_, fun y hy => ?_⟩
  · refine tms_add h.ok.tms hx.2.2.1 (t := .mk op n l) (ks := all) (K' := fun k => s1.K k ∨ some k = kv.ownBlock) (Nat.le_refl _) (fun b hb => ⟨rfl, ?_⟩) (fun k hk _ => ⟨rfl, .inl hk⟩) ?_ ⟨ka, kc, 1, e2, own'.ptrs fun g hg => .inr (by rw [e1]; exact hg), htx, hn⟩
    · rintro (hk | hk)
      · exact (h.ok.tms b hb).1 hk
      · exact (rowNot b hk).1 (List.mem_append.2 (.inl hb))
    · rintro (hk | hk)
      · exact hx.2.2.2.1 hk
      · exact h.nx hk
  · exact foOk_add h.ok.fo hx.2.2.1 ht h.mem (by rw [h.tys]; rfl) fun e => absurd e ho
  · obtain ⟨g1, g2⟩ := h.ok.map.mem y b hy
    exact ⟨List.mem_append.2 (.inl g1), by rw [← g2]; exact upd_else _ _ (hold b g1)⟩
  · simp only [addTm, Fo.var] at hb hv ⊢
    rcases List.mem_append.1 hb with hb' | hb'
    · rw [upd_else _ _ (hold b hb')] at hv ⊢
      exact h.ok.map.all b hb' hv
    · simp only [List.mem_singleton] at hb'
      rw [hb', upd_same] at hv
      exact absurd hv ho
  · rcases List.mem_append.1 hm with hm | hm
    · exact h.ok.sepS.1 hm
    · simp only [List.mem_singleton] at hm
      exact hx.2.2.2.2.1 hm.symm
  · rintro (hk | hk)
    · exact h.ok.sepS.2 hk
    · exact (rowNot sb hk).2.1 rfl
  · rcases List.mem_append.1 hm with hm | hm
    · exact (h.ok.sepM mb e).1 hm
    · simp only [List.mem_singleton] at hm
      exact hx.2.2.2.2.2.1 (by rw [← hm]; exact e.symm)
  · rintro (hk | hk)
    · exact (h.ok.sepM mb e).2 hk
    · exact (rowNot mb hk).2.2.1 e.symm
  · rcases List.mem_append.1 hm with hm | hm
    · exact (h.ok.sepA k hk).1 hm
    · simp only [List.mem_singleton] at hm
      rw [hm] at hk; exact hx.2.2.2.2.2.2 hk
  · rintro (hk2 | hk2)
    · exact (h.ok.sepA k hk).2.1 hk2
    · exact (rowNot k hk2).2.2.2 hk
  · rcases hk with hk | hk
    · exact h.ok.kl k hk
    · exact (h.sep k (.inr hk)).2.1
  · have := h.ok.nl
    simp only [addTm, List.length_append, List.length_cons, List.length_nil]; omega
  · have := h.ok.vl
    simp only [addTm, List.length_append, List.length_cons, List.length_nil]; omega
  · refine ⟨fun b hb => ?_, fun b hb => ?_, fun k hk => .inl (h.ext.K k hk), fun k hk => ?_, h.ext.mv, h.ext.vv, h.ext.M⟩
    · obtain ⟨g1, g2, g3, g4, g5, g6⟩ := h.ext.old b hb
      have hne := hold b g1
      exact ⟨List.mem_append.2 (.inl g1), (upd_else _ _ hne).trans g2, (upd_else _ _ hne).trans g3, (upd_else _ _ hne).trans g4, (upd_else _ _ hne).trans g5, (upd_else _ _ hne).trans g6⟩
    · simp only [addTm] at hb ⊢
      rcases List.mem_append.1 hb with hb | hb
      · have hne := hold b hb
        rw [upd_else _ _ hne, upd_else _ _ hne, upd_else _ _ hne]
        exact h.ext.new b hb
      · simp only [List.mem_singleton] at hb
        rw [hb, upd_same, upd_same, upd_same]
        exact .inr ⟨hx.1, rfl, rfl, rfl⟩
    · rcases hk with hk | hk
      · exact h.ext.K' k hk
      · exact .inr (h.sep k (.inr hk)).1
  · have := h.len
    simp only [addTm, List.length_append, List.length_cons, List.length_nil, Ty.size]; omega
  · simp only [addTm] at hc hcL
    have hks : ∀ k ∈ all, P k := fun k hk => hc xb (by simp) hP k (by rw [upd_same]; exact hk)
    rcases List.mem_append.1 hcL with hcL | hcL
    · refine h.reach P (fun d hd hPd q hq => ?_) hks c hcL hn2
      exact hc d (List.mem_append.2 (.inl hd)) hPd q (by rw [upd_else _ _ (hold d hd)]; exact hq)
    · simp only [List.mem_singleton] at hcL
      rw [hcL]; exact hP
  · rcases h.dom y hy with g | ⟨t, ht2, g⟩
    · exact .inl g
    · exact .inr ((tocc_eq y op n l).2 (.inr ⟨t, ht2, g⟩))
end
end Go.Proofs.Ytadhjnbhcenocaa

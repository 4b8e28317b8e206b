/- The program's own 'order': vars as they came, and the map that says where each stands; what its method add does. -/
import Derived.Test.YtbiihiibebdjgaaInts
import Derived.Test.YtbiihiibebdjgaaMath8e
import Derived.Test.YtbiihiibebdjgaaTyV
import Derived.Maps.OwnSet
import Derived.Maps.OwnOps
import Derived.Carry
import Derived.Deep.RegionHeld
namespace Go.Proofs.Ytbiihiibebdjgaa
open Go.RowKit Go.Em8
set_option linter.unusedSimpArgs false

/-- The map says of each number where it stands among L. -/
def Places (D : DataW Unit) (L : List Int) : Prop := ∀ x : Int, D.atKey (.int .i64 x) (.lit (.int .i64 0)) = .lit (.int .i64 (if x ∈ L then (L.idxOf x : Int) else 0)) ∧ Maps.has D (.int .i64 x) = decide (x ∈ L)
theorem Places.nil : Places (.map []) [] := fun x => ⟨by simp [DataW.atKey], by simp [Maps.has]⟩

/-- In the world w the block ob holds vars in their order (the row vv), and a map mb that says where each of them stands; all of them from block B on. -/
structure Ord (w : World) (B ob mb : Nat) (vv : Value) (L : List Int) : Prop where
  c0 : w.cell? ⟨ob, 0, none⟩ = some vv
  c1 : w.cell? ⟨ob, 1, none⟩ = some (.map (some mb))
  f0 : w.frozen? ⟨ob, 0, none⟩ = false
  own : OwnInts w B vv L
  i64 : ∀ x ∈ L, Em5.I64 x
  hob : B ≤ ob
  hmb : B ≤ mb
  neo : some ob ≠ vv.ownBlock
  nem : some mb ≠ vv.ownBlock
  map : ∃ D, w.ownsMap Try.prog 3 (plainElem (H := Unit) Try.prog 3) mb L.length D ∧ Places D L
theorem Ord.lt {w : World} {B ob mb : Nat} {vv : Value} {L : List Int} (h : Ord w B ob mb vv L) : ob < w.heap.size ∧ mb < w.heap.size := by
  obtain ⟨D, h1, -⟩ := h.map
  exact ⟨Em.cell_lt h.c0, h1.lt⟩
theorem Ord.ne {w : World} {B ob mb : Nat} {vv : Value} {L : List Int} (h : Ord w B ob mb vv L) : ob ≠ mb := by
  obtain ⟨D, h1, -⟩ := h.map
  obtain ⟨es, clock, hb, -⟩ := h1
  intro e
  have := h.c0
  rw [e] at this
  simp [World.cell?, hb] at this
theorem Ord.below {w w' : World} {B ob mb : Nat} {vv : Value} {L : List Int} (h : Ord w B ob mb vv L) (hb : Below w.heap.size w w') : Ord w' B ob mb vv L := by
  obtain ⟨l0, l1⟩ := h.lt
  obtain ⟨D, h1, h2⟩ := h.map
  exact ⟨by rw [hb.cell (p := ⟨ob, 0, none⟩) l0]; exact h.c0, by rw [hb.cell (p := ⟨ob, 1, none⟩) l0]; exact h.c1, by rw [hb.frozen (p := ⟨ob, 0, none⟩) l0]; exact h.f0, h.own.below hb, h.i64, h.hob, h.hmb, h.neo, h.nem, ⟨D, h1.kept (grownBy_below hb none) (by simp), h2⟩⟩
theorem i64_wf {x : Int} (hx : Em5.I64 x) : (Lit.int .i64 x).wf = true := by
  unfold Em5.I64 at hx
  simp [Lit.wf, IntKind.min, IntKind.max, IntKind.bits, IntKind.signed]
  omega
theorem key_int {x : Int} (hx : Em5.I64 x) : keyOf Try.prog 3 (.int .i64 x) = some (.int .i64 x) := Maps.keyOf_int_mk Try.underlying3 (i64_wf hx)
/-- 'o.place[x]'. -/
theorem Ord.look {w : World} {B ob mb : Nat} {vv : Value} {L : List Int} (h : Ord w B ob mb vv L) {x : Int} (hx : Em5.I64 x) :
    Sem.run Try.prog (Instr.lookup 64 (.map (some mb)) (.int .i64 x) false) w = .ok (.int .i64 (if x ∈ L then (L.idxOf x : Int) else 0)) w := by
  obtain ⟨D, h1, h2⟩ := h.map
  obtain ⟨c, hrun, hat, -⟩ := h1.lookup_int (t := 64) (Maps.int_keyed Try.underlying3) Try.underlying64 Try.underlying3 (Try.zeroValue3 _) (key_int hx)
  rw [(h2 x).1] at hat
  injection hat with e
  injection e with e1 e2
  rw [hrun, e2]
/-- '_, came := o.place[x]'. -/
theorem Ord.lookOk {w : World} {B ob mb : Nat} {vv : Value} {L : List Int} (h : Ord w B ob mb vv L) {x : Int} (hx : Em5.I64 x) :
    ∃ c, Sem.run Try.prog (Instr.lookup 64 (.map (some mb)) (.int .i64 x) true) w = .ok (.tuple #[.int .i64 c, .bool (decide (x ∈ L))]) w := by
  obtain ⟨D, h1, h2⟩ := h.map
  obtain ⟨v, ps, hrun, hv⟩ := h1.look_ok (t := 64) (Maps.int_keyed Try.underlying3) Try.underlying64 (Try.zeroValue3 _) (plainElem_int Try.underlying3 (by decide)) (key_int hx)
  obtain ⟨c, rfl, -⟩ := plainElem_int_inv Try.underlying3 hv
  exact ⟨c, by rw [hrun, (h2 x).2]⟩
/-- 'o.place[x] = len(o.vars)'. -/
theorem Ord.put {w : World} {B ob mb : Nat} {vv : Value} {L : List Int} (h : Ord w B ob mb vv L) {x : Int} (hx : Em5.I64 x) (hn : x ∉ L) (hl : L.length ≤ 1000000) :
    ∃ w', Sem.run Try.prog (Instr.mapUpdate 64 (.map (some mb)) (.int .i64 x) (.int .i64 (L.length : Int))) w = .ok () w' ∧ (∃ D, w'.ownsMap Try.prog 3 (plainElem (H := Unit) Try.prog 3) mb (L ++ [x]).length D ∧ Places D (L ++ [x])) ∧ w.grownBy w' (some mb) := by
  obtain ⟨D, h1, h2⟩ := h.map
  obtain ⟨w', r1, r2, r3⟩ := h1.update (t := 64) (e := 3) (Maps.int_keyed Try.underlying3) Try.underlying64 (by unfold maxLen; omega) (val := .int .i64 (L.length : Int)) (key_int hx) (plainElem_int Try.underlying3 (i64_wf (by unfold Em5.I64; omega)))
  refine ⟨w', r1, ⟨_, by simpa using r2, fun y => ?_⟩, r3⟩
  by_cases hy : y = x
  · subst hy
    rw [Maps.atKey_put_same h1.isMap (k := .int .i64 y) trivial, Maps.has_put_same h1.isMap (k := .int .i64 y) trivial]
    refine ⟨?_, by simp⟩
    rw [if_pos (by simp), List.idxOf_append, if_neg hn]
    simp
  · rw [Maps.atKey_put_other (fun e => hy (by injection e)), Maps.has_put_other (fun e => hy (by injection e)), (h2 y).1, (h2 y).2]
    have hm : y ∈ L ++ [x] ↔ y ∈ L := by simp [hy]
    refine ⟨?_, by rw [decide_eq_decide]; exact hm.symm⟩
    by_cases hl : y ∈ L
    · rw [if_pos hl, if_pos (hm.2 hl), List.idxOf_append, if_pos hl]
    · rw [if_neg hl, if_neg (fun e => hl (hm.1 e))]
/-- An order that is empty. -/
theorem ord_start (w : World) {g : Nat} (hg : g = w.heap.size) : Ord ((w.alloc (.map #[] 0)).alloc (.cells #[.slice none 0 0, .map (some g)] 66)) g (g + 1) g (.slice none 0 0) [] := by
  subst hg
  have e1 : (w.alloc (.map #[] 0)).heap.size = w.heap.size + 1 := by simp
  have m1 : (w.alloc (.map #[] 0)).ownsMap Try.prog 3 (plainElem (H := Unit) Try.prog 3) w.heap.size 0 (.map []) := World.ownsMap_made w _ _ _
  refine ⟨?_, ?_, ?_, OwnInts.nil _ _, by simp, by omega, Nat.le_refl _, by simp [Value.ownBlock], by simp [Value.ownBlock], ⟨_, m1.alloc _, Places.nil⟩⟩
  · rw [← e1]; simp
  · rw [← e1]; simp
  · rw [← e1]; simp [go_sem]
/-- The blocks that an order lies in. -/
def Ord.Of (ob mb : Nat) (vv : Value) (k : Nat) : Prop := k = ob ∨ k = mb ∨ some k = vv.ownBlock
theorem Ord.of_lt {w : World} {B ob mb : Nat} {vv : Value} {L : List Int} (h : Ord w B ob mb vv L) {k : Nat} (hk : Ord.Of ob mb vv k) : B ≤ k ∧ k < w.heap.size := by
  rcases hk with rfl | rfl | e
  · exact ⟨h.hob, h.lt.1⟩
  · exact ⟨h.hmb, h.lt.2⟩
  · exact World.ownsRow.lt h.own k e.symm

theorem grownBy_set (w : World) (g o : Nat) (x : Value) : w.grownBy (w.setCell ⟨g, o, none⟩ x) (some g) := by
  have h := (Below.refl 0 w).setCell (p := ⟨g, o, none⟩) (Nat.zero_le _) x
  exact ⟨h.os, h.tape, h.output, h.size, fun k _ hk => Below.heap_setCell _ _ _ _ (by simpa using hk)⟩
def addL (L : List Int) (x : Int) : List Int := if x ∈ L then L else L ++ [x]
set_option maxRecDepth 100000 in
set_option maxHeartbeats 2000000 in
theorem yadd_any (w : World) (B ob mb : Nat) (vv : Value) (L : List Int) (x : Int) (h : Ord w B ob mb vv L) (hx : Em5.I64 x) (hl : L.length ≤ 1000000) (hB : B ≤ w.heap.size) :
    Calls Try.prog 46 #[.pointer (some ⟨ob, 0, none⟩), .int .i64 x] w fun e w' => e = .returned (.tuple #[]) ∧ (∃ v', Ord w' B ob mb v' (addL L x)) ∧ Below B w w' ∧ ∀ k, k < w.heap.size → ¬ Ord.Of ob mb vv k → w'.heap[k]? = w.heap[k]? := by
  have HO : Hid (Ord w B ob mb vv L) := h
  have c0 := h.c0
  have c1 := h.c1
  obtain ⟨cc, hlook⟩ := h.lookOk hx
  obtain ⟨va, vc, hvv⟩ := h.own.form
  have HX : Hid (Em5.I64 x) := hx
  by_cases hm : x ∈ L
  · have HR : Hid (addL L x = L) := if_pos hm
    rw [decide_eq_true hm] at hlook
    clear hm
    go_enter Try.func46, Try.ntmps46
    go_wp2
    (try simp only [Exit.inBlock, Exit.then]); refine bodyPost_end (results_none rfl _ _ _) rfl ?_
    exact ⟨rfl, ⟨vv, by rw [HR.out]; exact HO.out⟩, Below.refl _ _, fun _ _ _ => rfl⟩
  · have HR : Hid (addL L x = L ++ [x]) := if_neg hm
    rw [decide_eq_false hm] at hlook
    have hD : Below w.heap.size w w.drew := (Below.refl _ _).drew
    have hOD := h.below hD
    obtain ⟨w1, hrun, hmap, hgr⟩ := hOD.put hx hm hl
    have hne := h.ne
    have hlt := h.lt
    have hblk : ∀ k, k < w.heap.size → k ≠ mb → w1.heap[k]? = w.heap[k]? := fun k hk hn => (hgr.block k hk (fun e => hn (Option.some.inj e))).trans (hD.block k hk)
    have d0 : w1.cell? ⟨ob, 0, none⟩ = some vv := by rw [World.cell?_of_block (w := w) (a := ⟨ob, 0, none⟩) (hblk ob hlt.1 hne)]; exact c0
    have d1 : w1.cell? ⟨ob, 1, none⟩ = some (.map (some mb)) := by rw [World.cell?_of_block (w := w) (a := ⟨ob, 1, none⟩) (hblk ob hlt.1 hne)]; exact c1
    have hown1 : OwnInts w1 B vv L := World.ownsRow.kept hOD.own hgr (.inr (fun e => h.nem e.symm))
    have hf1 : w1.frozen? ⟨ob, 0, none⟩ = false := by rw [World.frozen?_of_block (w := w) (a := ⟨ob, 0, none⟩) (hblk ob hlt.1 hne)]; exact h.f0
    have H1 : Hid (OwnInts w1 B vv L ∧ w1.frozen? ⟨ob, 0, none⟩ = false ∧ B ≤ w1.heap.size ∧ (∀ k, k < w.heap.size → k ≠ mb → w1.heap[k]? = w.heap[k]?) ∧ (∃ D, w1.ownsMap Try.prog 3 (plainElem (H := Unit) Try.prog 3) mb (L ++ [x]).length D ∧ Places D (L ++ [x])) ∧ w.drew.grownBy w1 (some mb)) := ⟨hown1, hf1, Nat.le_trans hB hgr.size, hblk, hmap, hgr⟩
    have HD1 : Hid (w1.cell? ⟨ob, 0, none⟩ = some vv ∧ w1.cell? ⟨ob, 1, none⟩ = some (.map (some mb))) := ⟨d0, d1⟩
    clear hm hOD hmap hgr hblk hown1 hf1 h
    subst hvv
    have HD0 : Hid (w.drew.cell? ⟨ob, 0, none⟩ = some (.slice va L.length vc) ∧ w.drew.cell? ⟨ob, 1, none⟩ = some (.map (some mb))) := ⟨c0, c1⟩
    go_enter Try.func46, Try.ntmps46
    go_wp2_with fail
    go_region_held (fun w' => w'.cell? ⟨ob, 0, none⟩ = some (.slice va L.length vc) ∧ w'.cell? ⟨ob, 1, none⟩ = some (.map (some mb))) (with_reducible (first | exact HD1.out | exact HD0.out)) (fail)
    clear c0 c1 hlook hrun
    go_wp2_with (at_builtin; refine wpList_app_int rfl _ _ rfl B _ L rfl H1.out.1 x _ (by simp) rfl (by omega) H1.out.2.2.1 ?_; intro v2 w2 o2 hg2; have e0 : w2.cell? ⟨ob, 0, none⟩ = some (.slice va L.length vc) := hg2.cell (a := ⟨ob, 0, none⟩) HD1.out.1 HO.out.neo; have ef : w2.frozen? ⟨ob, 0, none⟩ = false := (by rw [World.frozen?_of_block (w := w1) (a := ⟨ob, 0, none⟩) (hg2.1.block ob (Em.cell_lt HD1.out.1) HO.out.neo)]; exact H1.out.2.1); obtain ⟨xa, xc, hxe⟩ := o2.form; have hxf : v2 = .slice xa (L.length + 1) xc := (by rw [hxe]; simp); subst hxf; clear hxe; have HG2 : Hid (Grew w1 w2 (.slice va L.length vc) (.slice xa (L.length + 1) xc)) := hg2; have HO2 : Hid (OwnInts w2 B (.slice xa (L.length + 1) xc) (L ++ [x])) := o2; clear o2 hg2)
    (try simp only [Exit.inBlock, Exit.then]); refine bodyPost_end (results_none rfl _ _ _) rfl ?_
    have hg2 := HG2.out
    obtain ⟨h1, h2, h3, h4, ⟨D, hm1, hm2⟩, h6⟩ := H1.out
    have hO := HO.out
    have hlt := hO.lt
    have hs1 : w.heap.size ≤ w1.heap.size := h6.size
    have n1 : some ob ≠ (Value.slice xa (L.length + 1) xc).ownBlock := by
      rcases hg2.2 with e | ⟨q, e, hq⟩
      · rw [e]; exact hO.neo
      · rw [e]; intro e2; cases e2; omega
    have n2 : some mb ≠ (Value.slice xa (L.length + 1) xc).ownBlock := by
      rcases hg2.2 with e | ⟨q, e, hq⟩
      · rw [e]; exact hO.nem
      · rw [e]; intro e2; cases e2; omega
    have hset : ∀ k, k ≠ ob → (w2.setCell ⟨ob, 0, none⟩ (.slice xa (L.length + 1) xc)).heap[k]? = w2.heap[k]? := fun k hk => Below.heap_setCell _ _ _ _ (by simpa using hk)
    have e0 := hg2.cell (a := ⟨ob, 0, none⟩) HD1.out.1 hO.neo
    have e1 := hg2.cell (a := ⟨ob, 1, none⟩) HD1.out.2 hO.neo
    refine ⟨rfl, ⟨.slice xa (L.length + 1) xc, ?_⟩, ?_, fun k hk hn => ?_⟩
    · rw [HR.out]
      refine ⟨World.cell?_setCell_same _ _ _ e0, ?_, ?_, ?_, ?_, hO.hob, hO.hmb, n1, n2, ⟨D, ?_, hm2⟩⟩
      · rw [World.cell?_setCell_other _ _ _ _ (by simp)]; exact e1
      · rw [World.frozen?_setCell, World.frozen?_of_block (w := w1) (a := ⟨ob, 0, none⟩) (hg2.1.block ob (Em.cell_lt HD1.out.1) hO.neo)]; exact h2
      · exact World.ownsRow.kept HO2.out (grownBy_set _ _ _ _) (.inr n1.symm)
      · intro y hy
        rcases List.mem_append.1 hy with e | e
        · exact hO.i64 y e
        · simp at e; subst e; exact HX.out
      · exact (hm1.kept hg2.1 hO.nem).setCell (a := ⟨ob, 0, none⟩) hO.ne.symm _
    · have b1 : Below B w w1 := ((Below.refl B w).drew).grown h6 hB (fun k hk => by cases hk; exact hO.hmb)
      have b2 : Below B w1 w2 := hg2.below h1 h3
      exact (b1.trans b2).setCell (p := ⟨ob, 0, none⟩) hO.hob _
    · rw [hset k (fun e => hn (.inl e)), hg2.1.block k (by omega) (fun e => hn (.inr (.inr e))), h4 k hk (fun e => hn (.inr (.inl e)))]
end Go.Proofs.Ytbiihiibebdjgaa

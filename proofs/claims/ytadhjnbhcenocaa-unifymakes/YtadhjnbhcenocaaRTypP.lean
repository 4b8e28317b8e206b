/- What the document's own 'Put' makes. -/
import Derived.Test.YtadhjnbhcenocaaTyApp
import Derived.Test.YtadhjnbhcenocaaMath8c
import Derived.Test.YtadhjnbhcenocaaMath8t
import Derived.Test.YtadhjnbhcenocaaRTypC
import Derived.Test.YtadhjnbhcenocaaRTypN
import Derived.Deep.RegionLaw
import Derived.Deep.DeepCutAuto
import Derived.Deep.CutBlock
import Derived.Deep.QuietTactic
import Derived.BigQuiet
namespace Go.Proofs.Ytadhjnbhcenocaa
open Go.RowKit Go.Em8
set_option linter.unusedSimpArgs false

/-- A type that is being made: the type's own block, the result's, the new one's, and its kids so far. -/
def PutI (Q : Nat → Prop) (w : World) (op : List Int) (n : Int) (sl kv : Value) (ls : List Ty) (wr : World) : Prop :=
  wr.cell? ⟨w.heap.size, 2, none⟩ = some sl ∧
  (wr.cell? ⟨w.heap.size + 1, 0, none⟩ = some (.string ⟨#[]⟩) ∧ wr.cell? ⟨w.heap.size + 1, 1, none⟩ = some (.int .i64 0) ∧ wr.cell? ⟨w.heap.size + 1, 2, none⟩ = some (.slice none 0 0)) ∧
  (wr.cell? ⟨w.heap.size + 2, 0, none⟩ = some (.string (Em.str op)) ∧ wr.cell? ⟨w.heap.size + 2, 1, none⟩ = some (.int .i64 n) ∧ wr.cell? ⟨w.heap.size + 2, 2, none⟩ = some kv) ∧
  (∀ o, wr.frozen? ⟨w.heap.size + 1, o, none⟩ = false) ∧ (∀ o, wr.frozen? ⟨w.heap.size + 2, o, none⟩ = false) ∧
  OwnTys (fun b => Q b ∨ w.heap.size + 3 ≤ b) 25 wr (w.heap.size + 3) kv ls ∧ Below w.heap.size w wr ∧ w.heap.size + 3 ≤ wr.heap.size
theorem PutI.far {Q : Nat → Prop} {w : World} {op : List Int} {n : Int} {sl kv : Value} {ls : List Ty} {wr w' : World} (h : PutI Q w op n sl kv ls wr) (hb : Below (w.heap.size + 3) wr w') :
    w'.cell? ⟨w.heap.size, 2, none⟩ = some sl ∧
    (w'.cell? ⟨w.heap.size + 1, 0, none⟩ = some (.string ⟨#[]⟩) ∧ w'.cell? ⟨w.heap.size + 1, 1, none⟩ = some (.int .i64 0) ∧ w'.cell? ⟨w.heap.size + 1, 2, none⟩ = some (.slice none 0 0)) ∧
    (w'.cell? ⟨w.heap.size + 2, 0, none⟩ = some (.string (Em.str op)) ∧ w'.cell? ⟨w.heap.size + 2, 1, none⟩ = some (.int .i64 n) ∧ w'.cell? ⟨w.heap.size + 2, 2, none⟩ = some kv) ∧
    (∀ o, w'.frozen? ⟨w.heap.size + 1, o, none⟩ = false) ∧ (∀ o, w'.frozen? ⟨w.heap.size + 2, o, none⟩ = false) ∧ Below w.heap.size w w' ∧ w.heap.size + 3 ≤ w'.heap.size := by
  obtain ⟨a2, ⟨b0, b1, b2⟩, ⟨c0, c1, c2⟩, f1, f2, -, hw, hz⟩ := h
  have key : ∀ g o, g < w.heap.size + 3 → w'.cell? ⟨g, o, none⟩ = wr.cell? ⟨g, o, none⟩ := fun g o hg => hb.cell (p := ⟨g, o, none⟩) hg
  have keyf : ∀ g o, g < w.heap.size + 3 → w'.frozen? ⟨g, o, none⟩ = wr.frozen? ⟨g, o, none⟩ := fun g o hg => hb.frozen (p := ⟨g, o, none⟩) hg
  have hs := hb.size
  refine ⟨?_, ⟨?_, ?_, ?_⟩, ⟨?_, ?_, ?_⟩, fun o => ?_, fun o => ?_, hw.trans (hb.mono (by omega)), by omega⟩
  · rw [key _ _ (by omega)]; exact a2
  · rw [key _ _ (by omega)]; exact b0
  · rw [key _ _ (by omega)]; exact b1
  · rw [key _ _ (by omega)]; exact b2
  · rw [key _ _ (by omega)]; exact c0
  · rw [key _ _ (by omega)]; exact c1
  · rw [key _ _ (by omega)]; exact c2
  · rw [keyf _ _ (by omega)]; exact f1 o
  · rw [keyf _ _ (by omega)]; exact f2 o
theorem PutI.own {Q : Nat → Prop} {w : World} {op : List Int} {n : Int} {sl kv : Value} {ls : List Ty} {wr : World} (h : PutI Q w op n sl kv ls wr) : OwnTys (fun b => Q b ∨ w.heap.size + 3 ≤ b) 25 wr (w.heap.size + 3) kv ls := h.2.2.2.2.2.1
theorem PutI.bel {Q : Nat → Prop} {w : World} {op : List Int} {n : Int} {sl kv : Value} {ls : List Ty} {wr : World} (h : PutI Q w op n sl kv ls wr) : Below w.heap.size w wr := h.2.2.2.2.2.2.1
theorem PutI.size {Q : Nat → Prop} {w : World} {op : List Int} {n : Int} {sl kv : Value} {ls : List Ty} {wr : World} (h : PutI Q w op n sl kv ls wr) : w.heap.size + 3 ≤ wr.heap.size := h.2.2.2.2.2.2.2
theorem PutI.below {Q : Nat → Prop} {w : World} {op : List Int} {n : Int} {sl kv : Value} {ls : List Ty} {wr w' : World} (h : PutI Q w op n sl kv ls wr) (hb : Below wr.heap.size wr w') : PutI Q w op n sl kv ls w' := by
  obtain ⟨a2, b, c, f1, f2, hw, hz⟩ := h.far (hb.mono h.size)
  exact ⟨a2, b, c, f1, f2, ownTys_below h.own hb, hw, hz⟩
/-- A kid more. -/
theorem PutI.app {Q : Nat → Prop} {w : World} {op : List Int} {n : Int} {sl kv kv' : Value} {ls ls' : List Ty} {wr w' : World} (h0 : ∀ b, Q b → b < w.heap.size) (h : PutI Q w op n sl kv ls wr) (hb : Below (w.heap.size + 3) wr w')
    (ho : OwnTys (fun b => Q b ∨ w.heap.size + 3 ≤ b) 25 w' (w.heap.size + 3) kv' ls') : PutI Q w op n sl kv' ls' (w'.setCell ⟨w.heap.size + 2, 2, none⟩ kv') := by
  obtain ⟨a2, ⟨b0, b1, b2⟩, ⟨c0, c1, c2⟩, f1, f2, hw, hz⟩ := h.far hb
  have o1 : ∀ b o, (b, o) ≠ (w.heap.size + 2, 2) → (w'.setCell ⟨w.heap.size + 2, 2, none⟩ kv').cell? ⟨b, o, none⟩ = w'.cell? ⟨b, o, none⟩ := fun b o hne =>
    World.cell?_setCell_other _ _ _ _ (by intro e; injection e with e1 e2; exact hne (by rw [e1, e2]))
  refine ⟨?_, ⟨?_, ?_, ?_⟩, ⟨?_, ?_, World.cell?_setCell_same _ _ _ c2⟩, fun o => ?_, fun o => ?_, ownTys_set ho _ _ _ (by omega) (by rintro (h | h); exact absurd (h0 _ h) (by omega); omega), hw.setCell (p := ⟨w.heap.size + 2, 2, none⟩) (by simp) _, by rw [World.size_setCell]; exact hz⟩
  · rw [o1 _ _ (by simp)]; exact a2
  · rw [o1 _ _ (by simp)]; exact b0
  · rw [o1 _ _ (by simp)]; exact b1
  · rw [o1 _ _ (by simp)]; exact b2
  · rw [o1 _ _ (by simp)]; exact c0
  · rw [o1 _ _ (by simp)]; exact c1
  · rw [World.frozen?_setCell]; exact f1 o
  · rw [World.frozen?_setCell]; exact f2 o
theorem below_set3 {B g : Nat} {w w1 : World} (h : Below B w w1) (hg : B ≤ g) (a b c : Value) : Below B w (((w1.setCell ⟨g, 0, none⟩ a).setCell ⟨g, 1, none⟩ b).setCell ⟨g, 2, none⟩ c) :=
  ((h.setCell (p := ⟨g, 0, none⟩) hg _).setCell (p := ⟨g, 1, none⟩) hg _).setCell (p := ⟨g, 2, none⟩) hg _
/-- A type that was there is one still, in whatever world comes behind. -/
theorem isTyP_old {Q : Nat → Prop} {w0 w' : World} {B : Nat} {t : Ty} {v : Value} (h : IsTyP Q w0 t v) (hb : Below w0.heap.size w0 w') : IsTyP (fun b => Q b ∨ B ≤ b) w' t v :=
  isTyP_keep hb.size (fun b hp hl => ⟨hb.block b hl, .inl hp⟩) t v h

set_option maxRecDepth 100000 in
set_option maxHeartbeats 2000000 in
theorem rtPut_var (Q : Nat → Prop) (l : List Int) (bs : List Ty) (lv bv : Value) (w0 : World) (hl : IsInts w0 lv l) (hbs : IsTysP Q w0 bv bs) (hlen : l.length ≤ bs.length) (op : List Int) (n : Int) (ks : List Ty) (hop : op = tVar)
    (v : Value) (w : World) (hv : IsTyP Q w0 (.mk op n ks) v) (hbw : Below w0.heap.size w0 w) :
    Calls Try.prog 24 #[v, lv, bv] w fun e w' => ∃ u, e = .returned u ∧ IsTyP (fun b => Q b ∨ w.heap.size ≤ b) w' (tput l bs (.mk op n ks)) u ∧ Below w.heap.size w w' := by
  have HV : Hid (IsTyP Q w0 (.mk op n ks) v) := hv
  unfold IsTyP at hv
  obtain ⟨a, cap, rfl, t1, i1, hc1, hc2, -⟩ := hv
  have hll := hl.len
  have HL : Hid (0 < l.length → ∃ b off c, lv = .slice (some ⟨b, off, none⟩) l.length c ∧ b < w0.heap.size ∧ ∀ j t, l[j]? = some t → w0.cell? ⟨b, off + j, none⟩ = some (.int .i64 t)) := fun hp => by
    obtain ⟨b, off, c, e, -, -, h1, h2⟩ := hl.plain hp
    exact ⟨b, off, c, e, h1, h2⟩
  obtain ⟨al, cl, rfl, -⟩ := hl
  obtain ⟨ab, cb, rfl, -, -, hb3⟩ := hbs
  have HBS : Hid (0 < bs.length → ∃ b off, ab = some ⟨b, off, none⟩ ∧ b < w0.heap.size ∧ TysAtP Q w0 b off bs) := hb3
  have HP : Hid (tput l bs (.mk op n ks) = if n ∈ l then bs[l.idxOf n]?.getD (.mk op n ks) else .mk op n ks) := tput_var hop
  have HBW : Hid (Below w0.heap.size w0 w) := hbw
  have hq : ((Em.str op).toList == [118, 97, 114]) = true := by rw [Em5.str_eq t1.1, hop]; rfl
  have HLEN : Hid (l.length ≤ bs.length) := hlen
  obtain ⟨W, hW⟩ : ∃ W, W = (w.alloc (.cells #[.string (Em.str op), .int .i64 n, .slice a ks.length cap] 25)).alloc (.cells #[.string ⟨#[]⟩, .int .i64 0, .slice none 0 0] 25) := ⟨_, rfl⟩
  have hWb : Below w.heap.size w W := by rw [hW]; exact ((Below.refl _ _).alloc (Nat.le_refl _) _).alloc (by simp) _
  have hWz : W.heap.size = w.heap.size + 2 := by rw [hW]; simp
  have k0 : W.cell? ⟨w.heap.size, 0, none⟩ = some (.string (Em.str op)) := by rw [hW]; simp
  have k1 : W.cell? ⟨w.heap.size, 1, none⟩ = some (.int .i64 n) := by rw [hW]; simp
  have k2 : W.cell? ⟨w.heap.size, 2, none⟩ = some (.slice a ks.length cap) := by rw [hW]; simp
  have q0 : W.cell? ⟨w.heap.size + 1, 0, none⟩ = some (.string ⟨#[]⟩) := by rw [hW]; simp
  have q1 : W.cell? ⟨w.heap.size + 1, 1, none⟩ = some (.int .i64 0) := by rw [hW]; simp
  have q2 : W.cell? ⟨w.heap.size + 1, 2, none⟩ = some (.slice none 0 0) := by rw [hW]; simp
  have fq : ∀ o, W.frozen? ⟨w.heap.size + 1, o, none⟩ = false := by intro o; rw [hW]; simp [go_sem]
  have hz0 := hbw.size
  clear hop hb3 hlen t1 i1 hbw
  go_enter Try.func24, Try.ntmps24
  go_upto_region 1 with fail
  rw [← hW]
  clear hW
  go_wp2_with fail
  go_loopw [7] (fun i wr => ∃ j q : Nat, j ≤ l.length ∧ i = .int .i64 j ∧ wr = W.drewN q ∧ Hid (∀ k, k < j → l[k]? ≠ some n)) (fun i _ => l.length - (intOf i).toNat)
  case atStart => exact ⟨0, 0, Nat.zero_le _, rfl, rfl, fun k h => by omega⟩
  case round =>
    obtain ⟨j, q, hj, rfl, rfl, HD⟩ := hrel
    by_cases hlt : j < l.length
    · obtain ⟨b, off, c, hlv, hbl, hlc⟩ := HL.out (by omega)
      obtain ⟨rfl, rfl⟩ : al = some ⟨b, off, none⟩ ∧ cl = c := by cases hlv; exact ⟨rfl, rfl⟩
      obtain ⟨m, hm⟩ : ∃ m, l[j]? = some m := ⟨_, List.getElem?_eq_getElem hlt⟩
      have hcm : W.cell? ⟨b, off + j, none⟩ = some (.int .i64 m) := by
        rw [hWb.cell (p := ⟨b, off + j, none⟩) (by simp; omega), HBW.out.cell (p := ⟨b, off + j, none⟩) hbl]; exact hlc j m hm
      have hj0 : (0 : Int) ≤ (j : Int) := by omega
      have hjl : (j : Int) < (l.length : Int) := by omega
      have HM : Hid (l[j]? = some m) := hm
      clear hlc hm hlv
      by_cases he : m = n
      · subst he
        have hqq : (m == m) = true := by simp
        obtain ⟨t, ht⟩ : ∃ t, bs[j]? = some t := ⟨_, List.getElem?_eq_getElem (by have := HLEN.out; omega)⟩
        obtain ⟨bb, ob, rfl, hbb, hat⟩ := HBS.out (by have := HLEN.out; omega)
        obtain ⟨c0, c1, c2, m0, m1, m2, kn⟩ := tysAtP_get bs ob j t hat ht
        have key : ∀ o, W.cell? ⟨bb, o, none⟩ = w0.cell? ⟨bb, o, none⟩ := fun o => by
          rw [hWb.cell (p := ⟨bb, o, none⟩) (by simp; omega), HBW.out.cell (p := ⟨bb, o, none⟩) hbb]
        rw [← key] at m0 m1 m2
        obtain ⟨x0, x1, xa, xk, xc, hxe⟩ := isTyP_form kn
        simp only [Value.agg.injEq, Array.mk.injEq, List.cons.injEq, and_true] at hxe
        obtain ⟨rfl, rfl, rfl⟩ := hxe
        have HR : Hid (tput l bs (.mk op m ks) = t) := by
          obtain ⟨h1, h2⟩ := idx_at l m j HM.out HD.out
          rw [Hid, HP.out, if_pos h1, h2, ht]; rfl
        have HN : Hid (IsTyP Q w0 t (.agg #[.string x0, .int .i64 x1, .slice xa xk xc])) := kn
        have hjb : (j : Int) < (bs.length : Int) := by have := HLEN.out; omega
        clear key kn hat ht
        go_wp2_with fail
        go_quiet (fail)
        go_wp2
        refine bodyPost_ret (v := .agg #[.string x0, .int .i64 x1, .slice xa xk xc]) (by simp [results, Try.results24, go_sem, q0, q1, q2]) rfl ⟨_, rfl, ?_, ?_⟩
        · rw [HR.out]
          refine isTyP_old HN.out ?_
          exact below_set3 (g := w.heap.size + 1) (Em.below_drewN (HBW.out.trans (hWb.mono HBW.out.size)) (q + nq)) (by omega) _ _ _
        · exact below_set3 (g := w.heap.size + 1) (Em.below_drewN hWb (q + nq)) (by omega) _ _ _
      · have hqq : (m == n) = false := by rw [beq_eq_false_iff_ne]; exact he
        have HE : Hid (m ≠ n) := he
        clear he
        go_wp2_with fail
        go_quiet (fail)
        go_wp2
        go_roundw
        case rel =>
          refine ⟨j + 1, q + nq, by omega, by go_num, rfl, fun k hk => ?_⟩
          by_cases hkj : k = j
          · subst hkj; rw [HM.out]; intro e; exact HE.out (by simpa using e)
          · exact HD.out k (by omega)
        case measure => simp [intOf]; omega
    · have HR : Hid (tput l bs (.mk op n ks) = .mk op n ks) := by
        rw [Hid, HP.out, if_neg (idx_none fun k hk => HD.out k (by omega))]
      go_wp2
      refine bodyPost_ret (v := .agg #[.string (Em.str op), .int .i64 n, .slice a ks.length cap]) (by simp [results, Try.results24, go_sem, q0, q1, q2]) rfl ⟨_, rfl, ?_, ?_⟩
      · rw [HR.out]
        refine isTyP_old HV.out ?_
        exact below_set3 (g := w.heap.size + 1) (Em.below_drewN (HBW.out.trans (hWb.mono HBW.out.size)) q) (by omega) _ _ _
      · exact below_set3 (g := w.heap.size + 1) (Em.below_drewN hWb q) (by omega) _ _ _

/-- What a kid's own call made lies apart from the row of the kids. -/
theorem put_apart {Q : Nat → Prop} {w : World} {op : List Int} {n : Int} {sl kv : Value} {ls : List Ty} {wr w3 : World} {t : Ty} {u : Value} (h : PutI Q w op n sl kv ls wr) (h0 : ∀ b, Q b → b < w.heap.size)
    (hu : IsTyP (fun b => Q b ∨ wr.drew.heap.size ≤ b) w3 t u) : IsTyP (fun x => (Q x ∨ w.heap.size + 3 ≤ x) ∧ some x ≠ kv.ownBlock) w3 t u := by
  have hz := h.size
  have e : wr.drew.heap.size = wr.heap.size := rfl
  refine isTyP_wide hu fun b hb _ => ⟨?_, fun hk => ?_⟩
  · rcases hb with hb | hb
    · exact .inl hb
    · exact .inr (by omega)
  · obtain ⟨cs, -, hown, -⟩ := h.own
    have h2 := World.ownsRow.lt hown b hk.symm
    rcases hb with hb | hb
    · have := h0 b hb; omega
    · omega

set_option maxRecDepth 100000 in
set_option maxHeartbeats 4000000 in
theorem rtPut_any (Q : Nat → Prop) (l : List Int) (bs : List Ty) (lv bv : Value) (w0 : World) (hl : IsInts w0 lv l) (hbs : IsTysP Q w0 bv bs) (hlen : l.length ≤ bs.length) (hQ : ∀ b, Q b → b < w0.heap.size) (T : Ty) :
    ∀ (v : Value) (w : World), IsTyP Q w0 T v → Below w0.heap.size w0 w → thin T = true →
    Calls Try.prog 24 #[v, lv, bv] w fun e w' => ∃ u, e = .returned u ∧ IsTyP (fun b => Q b ∨ w.heap.size ≤ b) w' (tput l bs T) u ∧ Below w.heap.size w w' := by
  induction T using Ty.ind with
  | h op n ks ih =>
    intro v w hv hbw hsz
    by_cases hop : op = tVar
    · exact rtPut_var Q l bs lv bv w0 hl hbs hlen op n ks hop v w hv hbw
    have HI : Hid (∀ t ∈ ks, ∀ (v : Value) (w : World), IsTyP Q w0 t v → Below w0.heap.size w0 w → thin t = true →
      Calls Try.prog 24 #[v, lv, bv] w fun e w' => ∃ u, e = .returned u ∧ IsTyP (fun b => Q b ∨ w.heap.size ≤ b) w' (tput l bs t) u ∧ Below w.heap.size w w') := ih
    unfold IsTyP at hv
    obtain ⟨a, cap, rfl, t1, i1, hc1, hc2, hk⟩ := hv
    have HK : Hid (0 < ks.length → ∃ b off, a = some ⟨b, off, none⟩ ∧ b < w0.heap.size ∧ TysAtP Q w0 b off ks) := fun hp => by obtain ⟨b, off, e1, e2, -, e4⟩ := hk hp; exact ⟨b, off, e1, e2, e4⟩
    have HT1 : Hid (Em5.Txt op) := t1
    have HI1 : Hid (Em5.I64 n) := i1
    have HP : Hid (tput l bs (.mk op n ks) = .mk op n (ks.map (tput l bs))) := tput_else hop
    have HBW : Hid (Below w0.heap.size w0 w) := hbw
    have HQ : Hid (∀ b, Q b → b < w0.heap.size) := hQ
    have hq : ((Em.str op).toList == [118, 97, 114]) = false := by rw [Em5.str_eq t1.1]; exact decide_eq_false hop
    have hks : ks.length ≤ 1000000 := (thin_iff.1 hsz).1
    have HSZ : Hid (∀ t ∈ ks, thin t = true) := (thin_iff.1 hsz).2
    have hz0 := hbw.size
    have HS0 : Hid (PutI Q w op n (.slice a ks.length cap) (.slice none 0 0) [] (((w.alloc (.cells #[.string (Em.str op), .int .i64 n, .slice a ks.length cap] 25)).alloc (.cells #[.string ⟨#[]⟩, .int .i64 0, .slice none 0 0] 25)).alloc (.cells #[.string (Em.str op), .int .i64 n, .slice none 0 0] 25))) :=
      ⟨by simp [go_sem], ⟨by simp [go_sem], by simp [go_sem], by simp [go_sem]⟩, ⟨by simp [go_sem], by simp [go_sem], by simp [go_sem]⟩, fun o => by simp [go_sem], fun o => by simp [go_sem], Em8.OwnTys.nil _ _ _ _, (((Below.refl _ _).alloc (Nat.le_refl _) _).alloc (by simp) _).alloc (by simp; omega) _, by simp⟩
    obtain ⟨lva, lvn, lvc, rfl⟩ : ∃ a n c, lv = .slice a n c := by obtain ⟨a, c, rfl, -⟩ := hl; exact ⟨_, _, _, rfl⟩
    obtain ⟨bva, bvn, bvc, rfl⟩ : ∃ a n c, bv = .slice a n c := by obtain ⟨a, c, rfl, -⟩ := hbs; exact ⟨_, _, _, rfl⟩
    clear ih hk t1 i1 hop hsz hl hbs hbw
    go_enter Try.func24, Try.ntmps24
    go_wp2_with fail
    go_loopw [9] (fun i wr => ∃ (j : Nat) (kv : Value), j ≤ ks.length ∧ i = .int .i64 j ∧ PutI Q w op n (.slice a ks.length cap) kv ((ks.take j).map (tput l bs)) wr) (fun i _ => ks.length - (intOf i).toNat)
    case atStart => exact ⟨0, _, Nat.zero_le _, rfl, HS0.out⟩
    case round =>
      clear HS0
      obtain ⟨j, kv, hj, rfl, hI⟩ := hrel
      have HPI : Hid (PutI Q w op n (.slice a ks.length cap) kv ((ks.take j).map (tput l bs)) wr) := hI
      obtain ⟨ka, kc, hkv, hkc1, hkc2⟩ := ownTys_form hI.own
      obtain ⟨a2, ⟨b0, b1, b2⟩, ⟨c0, c1, c2⟩, f1, f2, -, hw, hz⟩ := hI
      by_cases hlt : j < ks.length
      · obtain ⟨b, off, rfl, hb, hat⟩ := HK.out (by omega)
        obtain ⟨t, ht⟩ : ∃ t, ks[j]? = some t := ⟨_, List.getElem?_eq_getElem hlt⟩
        obtain ⟨y0, y1, y2, m0, m1, m2, kn⟩ := tysAtP_get ks off j t hat ht
        obtain ⟨x0, x1, xa, xk, xc, hxe⟩ := isTyP_form kn
        simp only [Value.agg.injEq, Array.mk.injEq, List.cons.injEq, and_true] at hxe
        obtain ⟨rfl, rfl, rfl⟩ := hxe
        have key : ∀ o, wr.cell? ⟨b, o, none⟩ = w0.cell? ⟨b, o, none⟩ := fun o => by
          rw [hw.cell (p := ⟨b, o, none⟩) (by simp; omega), HBW.out.cell (p := ⟨b, o, none⟩) hb]
        rw [← key] at m0 m1 m2
        have HN : Hid (IsTyP Q w0 t (.agg #[.string x0, .int .i64 x1, .slice xa xk xc])) := kn
        have HTT : Hid (ks[j]? = some t) := ht
        have HTS : Hid (thin t = true) := HSZ.out t (List.mem_of_getElem? ht)
        have hj0 : (0 : Int) ≤ (j : Int) := by omega
        have hjl : (j : Int) < (ks.length : Int) := by omega
        have hD : Below wr.heap.size wr wr.drew := (Below.refl _ _).drew
        have HWD : Hid (Below w0.heap.size w0 wr.drew) := HBW.out.trans ((hw.trans (hD.mono hw.size)).mono HBW.out.size)
        have HW0 : Hid (∀ b, Q b → b < w.heap.size) := fun b hb => Nat.lt_of_lt_of_le (HQ.out b hb) hz0
        have htk : ((ks.take j).map (tput l bs)).length ≤ 1000000 := by simp; omega
        have hlj : ((ks.take j).map (tput l bs)).length = j := by simp; omega
        rw [hlj] at hkv
        clear key kn hat ht b0 b1 b2 c0 c1 f1 hkc1 hkc2 hlj
        subst hkv
        have HNX : Hid ((ks.take (j + 1)).map (tput l bs) = (ks.take j).map (tput l bs) ++ [tput l bs t]) := by
          have hjl' := (List.getElem?_eq_some_iff.1 HTT.out).1
          rw [Hid, List.take_succ_eq_append_getElem hjl', List.map_append, (List.getElem?_eq_some_iff.1 HTT.out).2]; rfl
        have HL4 : Hid (((ks.take j).map (tput l bs) ++ [tput l bs t]).length = j + 1) := by rw [Hid]; simp; omega
        clear f2
        go_wp2_with fail
        go_region_law (first
          | (refine step_app_ty (P := fun b => Q b ∨ w.heap.size + 3 ≤ b) (w := w3) (by rfl) _ _ (by rfl) (w.heap.size + 3) _ ((ks.take j).map (tput l bs)) (by rfl) hI3.out.own (tput l bs t) _ _ _ hel3.out _ (by first | rfl | simp) (by rfl) htk hI3.out.size ?_; intro v4 w4 o4 hb4; obtain ⟨va, vc, hv4, -, -⟩ := ownTys_form o4; rw [HL4.out] at hv4; subst hv4; have HS4 : Hid (PutI Q w op n (.slice (some ⟨b, off, none⟩) ks.length cap) (.slice va (j + 1) vc) ((ks.take j).map (tput l bs) ++ [tput l bs t]) (w4.setCell ⟨w.heap.size + 2, 2, none⟩ (.slice va (j + 1) vc))) := PutI.app HW0.out hI3.out hb4 o4; have c24 := (hI3.out.far hb4).2.2.1.2.2; have f24 := (hI3.out.far hb4).2.2.2.2.1 2; clear o4 hb4)
          | (go_simp; go_at_call 24; refine (HI.out t (List.mem_of_getElem? HTT.out) _ _ HN.out HWD.out HTS.out).mono ?_; rintro e w3 ⟨u3, rfl, hu3, hb3⟩; obtain ⟨z0, z1, za, zk, zc, rfl⟩ := isTyP_form hu3; have hI3 : Hid (PutI Q w op n (.slice (some ⟨b, off, none⟩) ks.length cap) (.slice ka j kc) ((ks.take j).map (tput l bs)) w3) := HPI.out.below (hD.trans hb3); have hel3 : Hid (IsTyP (fun x => (Q x ∨ w.heap.size + 3 ≤ x) ∧ some x ≠ (Value.slice ka j kc).ownBlock) w3 (tput l bs t) (.agg #[.string z0, .int .i64 z1, .slice za zk zc])) := put_apart HPI.out HW0.out hu3; have c23 := hI3.out.2.2.1.2.2; have hz3 : w.heap.size + 2 < w3.heap.size := (by have := hI3.out.size; omega); clear hu3 hb3))
        all_goals
          go_wp2
          go_roundw
          case rel => exact ⟨j + 1, _, by omega, by go_num, by rw [HNX.out]; exact HS4.out⟩
          case measure => simp [intOf]; omega
      · have hje : j = ks.length := by omega
        subst hje
        have HTA : Hid ((ks.take ks.length).map (tput l bs) = ks.map (tput l bs)) := by rw [Hid, List.take_length]
        have hlj : ((ks.take ks.length).map (tput l bs)).length = ks.length := by simp
        rw [hlj] at hkv
        clear hlj
        subst hkv
        have HF : Hid (IsTyP (fun x => Q x ∨ w.heap.size + 3 ≤ x) wr (.mk op n ((ks.take ks.length).map (tput l bs))) (.agg #[.string (Em.str op), .int .i64 n, .slice ka ks.length kc])) :=
          Em8.OwnTys.is HPI.out.own hkc2 (fun x hx => .inr hx) HT1.out HI1.out
        go_wp2
        refine bodyPost_ret (v := .agg #[.string (Em.str op), .int .i64 n, .slice ka ks.length kc]) (by simp [results, Try.results24, go_sem, b0, b1, b2]) rfl ⟨_, rfl, ?_, ?_⟩
        · rw [HP.out, ← HTA.out]
          refine isTyP_keep (by simp) (fun x hp hl => ⟨?_, ?_⟩) _ _ HF.out
          · have hne : ¬ x = w.heap.size + 1 := by
              rcases hp with h | h
              · have := HQ.out x h; omega
              · omega
            rw [Below.heap_setCell _ _ _ _ (by simp; exact hne), Below.heap_setCell _ _ _ _ (by simp; exact hne), Below.heap_setCell _ _ _ _ (by simp; exact hne)]
          · rcases hp with h | h
            · exact .inl h
            · exact .inr (by omega)
        · exact below_set3 (g := w.heap.size + 1) hw (by omega) _ _ _
end Go.Proofs.Ytadhjnbhcenocaa

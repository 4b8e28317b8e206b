/- What the program's own show.write does: it writes an expression's text behind what the builder holds. -/
import Derived.Test.YtoekhejpompjlaaDoorShA
import Derived.Test.YtoekhejpompjlaaDoorPureA
import Derived.Lib.OthersKept
namespace Go.Proofs.YtoekhejpompjlaaDoor
open Go.RowKit
set_option linter.unusedSimpArgs false
set_option linter.unusedVariables false

/-- A builder of a call's own that holds the text L. -/
abbrev Bld (B b : Nat) (L : List Int) (w : World) : Prop := Lib.IsBuilderF 37 5 B b (Lib.byteCells (Em.str L).data.toList) w
abbrev Kept (b : Nat) (w w' : World) : Prop := Lib.OthersKept 5 (some b) w w'
theorem bldAt_below {T e : TypeId} {B b : Nat} {p : Value} {bs : List Value} {w w' : World} (h : Lib.BuilderAtF T e B b p bs w) (hb : Below w.heap.size w w') : Lib.BuilderAtF T e B b p bs w' := by
  have hlt := h.lt
  obtain ⟨hB, v, hbk, hown, hne⟩ := h
  refine ⟨hB, v, by rw [hb.block b hlt]; exact hbk, ⟨hown.1, ?_⟩, hne⟩
  rcases hown.2 with hn | ⟨g, cap, cur, fz, hv, hbg, hg, rest⟩
  · exact .inl hn
  · refine .inr ⟨g, cap, cur, fz, hv, hbg, ?_, rest⟩
    have hgl : g < w.heap.size := by
      rcases Nat.lt_or_ge g w.heap.size with h' | h'
      · exact h'
      · simp [Array.getElem?_eq_none h'] at hg
    rw [hb.block g hgl]; exact hg
theorem Bld.below {B b : Nat} {L : List Int} {w w' : World} (h : Bld B b L w) (hb : Below w.heap.size w w') : Bld B b L w' := h.elim (fun x => .inl (bldAt_below x hb)) (fun x => .inr (bldAt_below x hb))
theorem Bld.lt {B b : Nat} {L : List Int} {w : World} (h : Bld B b L w) : b < w.heap.size := h.elim (fun x => x.lt) (fun x => x.lt)
theorem kept_below {b : Nat} {w w' : World} (hb : Below w.heap.size w w') : Kept b w w' := fun k o hk _ _ => by
  have hlt : k < w.heap.size := (Array.getElem?_eq_some_iff.1 hk).1
  rw [hb.block k hlt]; exact hk
theorem heap_lt {w : World} {k : Nat} {o : Obj} (h : w.heap[k]? = some o) : k < w.heap.size := (Array.getElem?_eq_some_iff.1 h).1
/-- What a write into a builder is called with, and does. -/
abbrev Writes : Prop := ∀ (L M : List Int) (B b : Nat) (w : World), Bld B b L w → L.length + M.length ≤ 140737488355328 → B ≤ w.heap.size →
  Calls Tryd.prog 30 #[.pointer (some ⟨b, 0, none⟩), .string (Em.str M)] w fun e w' => e = .returned (.tuple #[.int .i64 (Em.str M).size, .nilIface]) ∧ Bld B b (L ++ M) w' ∧ Below B w w' ∧ Kept b w w'
abbrev Formats : Prop := ∀ (m : Nat) (w : World), m ≤ 999999999999999999 → IsPow w → Calls Tryd.prog 46 #[.int .i64 m, .int .i64 10] w fun e w' => e = .returned (.string (Em.str (Em7.digs m))) ∧ Below w.heap.size w w'
theorem txts_get {ps : List (List Int)} {k : Nat} (h : k < ps.length) : (txts ps).toArray[k]? = some (.string (Em.str (Em7.tx ps k))) := by
  simp [txts, Em7.tx, h]
theorem str_ne8 : (9 : Nat) ≠ 5 := by decide
theorem node_ne8 : (24 : Nat) ≠ 5 := by decide
theorem not_row {c : Array Value} {t e : TypeId} {fz : Nat × Nat} (h : t ≠ e) : ∀ c' fz', (Obj.cells c t fz) ≠ .cells c' e fz' := by
  intro c' fz' he
  cases he
  exact h rfl

set_option maxRecDepth 100000 in
set_option maxHeartbeats 8000000 in
theorem pwrite_any (HF : Formats) (HS : Writes) (T : Em5.Nd) : ∀ (v : Value) (w0 w : World) (b : Nat) (L : List Int), Em5.IsNd w0 T v → Em5.each T = true → Below w0.heap.size w0 w → IsPow w0 → Bld w0.heap.size b L w →
    L.length + (Em7.text T).length ≤ 1000000000 →
    Calls Tryd.prog 17 #[.pointer (some ⟨b, 0, none⟩), v] w fun e w' => e = .returned (.tuple #[]) ∧ Bld w0.heap.size b (L ++ Em7.text T) w' ∧ Below w0.heap.size w w' ∧ Kept b w w' := by
  induction T using Em5.Nd.ind with
  | h op nm ar n p l ih =>
    intro v w0 w b L hv he hb0 hp hB hlen
    have HFF : Hid Formats := HF
    have HSS : Hid Writes := HS
    have HI : Hid (∀ t ∈ l, ∀ (v : Value) (w0 w : World) (b : Nat) (L : List Int), Em5.IsNd w0 t v → Em5.each t = true → Below w0.heap.size w0 w → IsPow w0 → Bld w0.heap.size b L w → L.length + (Em7.text t).length ≤ 1000000000 →
      Calls Tryd.prog 17 #[.pointer (some ⟨b, 0, none⟩), v] w fun e w' => e = .returned (.tuple #[]) ∧ Bld w0.heap.size b (L ++ Em7.text t) w' ∧ Below w0.heap.size w w' ∧ Kept b w w') := ih
    obtain ⟨hpl, hpt⟩ := Em7.pcs_text he
    have HL3 : Hid (l.length ≤ 3) := by
      have h1 := (Em7.each_cases he).2.2.2
      have h2 := (Em7.kids_five (op := op) (by omega)).2
      rw [Hid]; omega
    have HE : Hid (Em5.each (.mk op nm ar n p l) = true) := he
    have HV : Hid (∀ w', Below w0.heap.size w0 w' → Em5.IsNd w' (.mk op nm ar n p l) v) := fun w' h => Em5.isNd_below h _ _ hv
    have HPW : Hid (IsPow w0) := hp
    have HPP : Hid (∀ w', Below w0.heap.size w0 w' → IsPow w') := fun w' h => hp.below h
    unfold Em5.IsNd at hv
    obtain ⟨a, cap, rfl, t1, t2, t3, i1, i2, hc1, hc2, hk⟩ := hv
    have HK : Hid (0 < l.length → ∃ b off, a = some ⟨b, off, none⟩ ∧ b < w0.heap.size ∧ Em5.KidsAt w0 b off l) := hk
    obtain ⟨W, hW⟩ : ∃ W, W = w.alloc (.cells #[.string (Em.str op), .string (Em.str nm), .string (Em.str ar), .int .i64 n, .int .i64 p, .slice a l.length cap] 24) := ⟨_, rfl⟩
    have hwW : Below w.heap.size w W := by rw [hW]; exact (Below.refl _ _).alloc (Nat.le_refl _) _
    have hbW : Below w0.heap.size w W := hwW.mono hb0.size
    have hb0W : Below w0.heap.size w0 W := hb0.trans hbW
    have hBW : Bld w0.heap.size b L W := hB.below hwW
    have hkW : Kept b w W := kept_below hwW
    have hbx : W.heap[w.heap.size]? = some (.cells #[.string (Em.str op), .string (Em.str nm), .string (Em.str ar), .int .i64 n, .int .i64 p, .slice a l.length cap] 24 (0, 0)) := by rw [hW]; exact heap_alloc_new7 _ _
    have hblt := hB.lt
    have HWE : Hid (w.alloc (.cells #[.string (Em.str op), .string (Em.str nm), .string (Em.str ar), .int .i64 n, .int .i64 p, .slice a l.length cap] 24) = W) := hW.symm
    obtain ⟨ps, hps⟩ : ∃ ps, ps = Em7.pcs op nm ar n := ⟨_, rfl⟩
    obtain ⟨ts, hts⟩ : ∃ ts, ts = Em7.texts l := ⟨_, rfl⟩
    obtain ⟨R, hR⟩ : ∃ R, R = Em7.text (.mk op nm ar n p l) := ⟨_, rfl⟩
    have HPS : Hid (Em7.pcs op nm ar n = ps) := hps.symm
    have HTS : Hid (Em7.texts l = ts) := hts.symm
    rw [← hR] at hlen hpt ⊢
    rw [← hps] at hpl hpt
    rw [← hts] at hpt
    have HPL : Hid (ps.length = l.length + 1) := hpl
    have HPT : Hid (Em7.part ps ts (l.length + 1) = R) := hpt
    have HLN : Hid (L.length + R.length ≤ 1000000000) := hlen
    have HB0 : Hid (Below w0.heap.size w0 w) := hb0
    clear ih HF HS he hp hk t1 t2 t3 i1 i2 hps hts hR hlen hpl hpt hW hB
    go_enter Tryd.func17, Tryd.ntmps17
    go_wp2_with fail
    rw [HWE.out]
    clear HWE
    refine (ppieces_any HFF.out op nm ar n p l _ _ (HV.out _ hb0W) HE.out (HPP.out _ hb0W)).mono ?_
    rintro e w1 ⟨pb, rfl, hpb, hpbl, hb1⟩
    rw [HPS.out] at hpb ⊢
    have hb1' : Below w0.heap.size W w1 := hb1.mono hb0W.size
    have hbx1 : w1.heap[w.heap.size]? = some (.cells #[.string (Em.str op), .string (Em.str nm), .string (Em.str ar), .int .i64 n, .int .i64 p, .slice a l.length cap] 24 (0, 0)) := by rw [hb1.block _ (heap_lt hbx)]; exact hbx
    have HX1 : Hid (w1.heap[w.heap.size]? = some (.cells #[.string (Em.str op), .string (Em.str nm), .string (Em.str ar), .int .i64 n, .int .i64 p, .slice a l.length cap] 24 (0, 0))) := hbx1
    have HPB : Hid (w1.heap[pb]? = some (.cells (txts ps).toArray 9 (0, 0))) := hpb
    have hB1 : Bld w0.heap.size b L w1 := hBW.below hb1
    have hw1 : Below w0.heap.size w w1 := hbW.trans hb1'
    have hk1 : Kept b w w1 := hkW.trans (kept_below hb1)
    have HNB : Hid (pb ≠ b) := by rw [Hid]; have := hBW.lt; omega
    have HNB2 : Hid (w.heap.size ≠ b) := by rw [Hid]; omega
    have hps1 : 1 ≤ ps.length := by have := HPL.out; omega
    have hpsM : ps.length ≤ 9223372036854775807 := by
      have h1 := HPL.out
      have h2 := HL3.out
      omega
    clear hbx hbx1 hpb hpbl hb1 hb1' hBW hkW hbW hb0W hwW hblt hb0
    go_wp2
    go_loopw [9] (fun i wr => ∃ k : Nat, k ≤ ps.length ∧ i = .int .i64 k ∧ Bld w0.heap.size b (L ++ Em7.part ps ts k) wr ∧ Below w0.heap.size w wr ∧ Kept b w wr ∧ Kept b w1 wr) (fun i _ => ps.length - (intOf i).toNat)
    case atStart => exact ⟨0, Nat.zero_le _, rfl, by simpa [Em7.part] using hB1, hw1, hk1, Lib.OthersKept.refl _ _ _⟩
    case round =>
      clear hB1 hw1 hk1
      obtain ⟨k, hk, rfl, hB, hbel, hkp, hkp1⟩ := hrel
      by_cases hlt : k < ps.length
      · have hcell : wr.cell? ⟨pb, k, none⟩ = some (.string (Em.str (Em7.tx ps k))) := by
          rw [Lib.cell_of_heap (hkp1 pb _ HPB.out (by simpa using HNB.out) (not_row str_ne8))]
          exact txts_get hlt
        have hjI : (k : Int) < (ps.length : Int) := by omega
        have HBL : Hid (Below w0.heap.size w wr) := hbel
        have HKP : Hid (Kept b w wr) := hkp
        have HK1 : Hid (Kept b w1 wr) := hkp1
        have HBB : Hid (Bld w0.heap.size b (L ++ Em7.part ps ts k) wr) := hB
        have HWZ : Hid (w0.heap.size ≤ wr.heap.size) := Nat.le_trans HB0.out.size hbel.size
        have HMO : Hid ((Em7.part ps ts (k + 1)).length ≤ R.length) := by
          rw [Hid, ← HPT.out]
          have := HPL.out
          exact Em7.part_mono _ _ _ _ (by omega)
        clear hbel hkp hkp1 hB
        by_cases h0 : k = 0
        · subst h0
          have HP1 : Hid (Em7.part ps ts 1 = Em7.part ps ts 0 ++ Em7.tx ps 0) := Em7.part_first ps ts
          go_wp2_with fail
          refine (HSS.out (L ++ Em7.part ps ts 0) (Em7.tx ps 0) w0.heap.size b _ HBB.out (by have h1 := HMO.out; have h2 := HLN.out; rw [HP1.out] at h1; simp only [List.length_append] at h1 ⊢; omega) HWZ.out).mono ?_
          rintro e w2 ⟨rfl, hB2, hb2, hk2⟩
          rw [List.append_assoc, ← HP1.out] at hB2
          have hbel2 : Below w0.heap.size w w2 := HBL.out.trans hb2
          have hkp2 : Kept b w w2 := HKP.out.trans hk2
          have hkp12 : Kept b w1 w2 := HK1.out.trans hk2
          clear hcell hb2 hk2
          go_wp2
          go_roundw
          case rel => exact ⟨1, by omega, by go_num, hB2, hbel2, hkp2, hkp12⟩
          case measure => simp [intOf]; omega
        · obtain ⟨j, rfl⟩ : ∃ j, k = j + 1 := ⟨k - 1, by omega⟩
          have hjl : j < l.length := by have := HPL.out; omega
          have g5 : wr.cell? ⟨w.heap.size, 5, none⟩ = some (.slice a l.length cap) := by
            rw [Lib.cell_of_heap (HK1.out _ _ HX1.out (by simpa using HNB2.out) (not_row node_ne8))]
            rfl
          obtain ⟨kb, off, rfl, hkb, hat⟩ := HK.out (by omega)
          obtain ⟨t, ht⟩ : ∃ t, l[j]? = some t := ⟨_, List.getElem?_eq_getElem hjl⟩
          obtain ⟨a', cap', k0, k1, k2, k3, k4, k5, kn⟩ := Em5.kid_get hat ht
          have hb0r : Below w0.heap.size w0 wr := HB0.out.trans HBL.out
          have key : ∀ o, wr.cell? ⟨kb, o, none⟩ = w0.cell? ⟨kb, o, none⟩ := fun o => hb0r.cell (p := ⟨kb, o, none⟩) hkb
          rw [← key] at k0 k1 k2 k3 k4 k5
          have HN : Hid (Em5.IsNd w0 t (.agg #[.string (Em.str t.op), .string (Em.str t.nm), .string (Em.str t.ar), .int .i64 t.n, .int .i64 t.p, .slice a' t.kids.length cap'])) := kn
          have HT : Hid (l[j]? = some t) := ht
          have HET : Hid (Em5.each t = true) := Em7.each_kids HE.out t (List.mem_of_getElem? ht)
          have HTX : Hid (Em7.tx ts j = Em7.text t) := by rw [Hid, ← HTS.out]; exact Em7.texts_get l j t ht
          have HP1 : Hid (Em7.part ps ts (j + 1 + 1) = Em7.part ps ts (j + 1) ++ Em7.text t ++ Em7.tx ps (j + 1)) := by
            rw [Hid, Em7.part_next ps ts (j + 1) (by omega), ← HTX.out]; rfl
          have HB0R : Hid (Below w0.heap.size w0 wr) := hb0r
          have hjI2 : (j : Int) < (l.length : Int) := by omega
          clear key kn ht hat h0 hb0r
          go_wp2_with fail
          refine (HI.out t (List.mem_of_getElem? HT.out) _ w0 _ b (L ++ Em7.part ps ts (j + 1)) HN.out HET.out HB0R.out HPW.out HBB.out (by have h1 := HMO.out; have h2 := HLN.out; rw [HP1.out] at h1; simp only [List.length_append] at h1 ⊢; omega)).mono ?_
          rintro e w2 ⟨rfl, hB2, hb2, hk2⟩
          have HB2 : Hid (Bld w0.heap.size b (L ++ Em7.part ps ts (j + 1) ++ Em7.text t) w2) := hB2
          have HBL2 : Hid (Below w0.heap.size w w2) := HBL.out.trans hb2
          have HKP2 : Hid (Kept b w w2) := HKP.out.trans hk2
          have HK12 : Hid (Kept b w1 w2) := HK1.out.trans hk2
          have HWZ2 : Hid (w0.heap.size ≤ w2.heap.size) := Nat.le_trans HWZ.out hb2.size
          clear k0 k1 k2 k3 k4 k5 g5 hcell hB2 hb2 hk2
          go_wp2_with fail
          refine (HSS.out (L ++ Em7.part ps ts (j + 1) ++ Em7.text t) (Em7.tx ps (j + 1)) w0.heap.size b _ HB2.out (by have h1 := HMO.out; have h2 := HLN.out; rw [HP1.out] at h1; simp only [List.length_append] at h1 ⊢; omega) HWZ2.out).mono ?_
          rintro e w3 ⟨rfl, hB3, hb3, hk3⟩
          have hB3' : Bld w0.heap.size b (L ++ Em7.part ps ts (j + 1 + 1)) w3 := by rw [HP1.out]; simpa only [List.append_assoc] using hB3
          have hbel3 : Below w0.heap.size w w3 := HBL2.out.trans hb3
          have hkp3 : Kept b w w3 := HKP2.out.trans hk3
          have hkp13 : Kept b w1 w3 := HK12.out.trans hk3
          clear hB3 hb3 hk3
          go_wp2
          go_roundw
          case rel => exact ⟨j + 1 + 1, by omega, by go_num, hB3', hbel3, hkp3, hkp13⟩
          case measure => simp [intOf]; omega
      · have hke : k = l.length + 1 := by have := HPL.out; omega
        rw [hke, HPT.out] at hB
        go_wp2
        go_end0
        exact ⟨rfl, hB, hbel, hkp⟩
end Go.Proofs.YtoekhejpompjlaaDoor

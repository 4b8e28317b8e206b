/- What the program's own typ.write does and typ.Show answers: a type's text. -/
import Derived.Test.YtcpimmapdhmoiaaDoorTypB
import Derived.Test.YtcpimmapdhmoiaaDoorBldrW
import Derived.Test.YtcpimmapdhmoiaaDoorMath8e
import Derived.Test.YtcpimmapdhmoiaaDoorLay8
import Derived.Shelf.Strings.BuilderK
import Derived.Shelf.Strconv.Itoa3
import Derived.Lib.AppendIntMem
namespace Go.Proofs.YtcpimmapdhmoiaaDoor
open Go.RowKit Go.Em8
set_option linter.unusedSimpArgs false
set_option linter.unusedVariables false

set_option maxRecDepth 100000 in
set_option maxHeartbeats 8000000 in
theorem ywrite_any (HF : Itoas) (HS : Writes) (T : Ty) : ∀ (v : Value) (w0 w : World) (b : Nat) (L : List Int), IsTy w0 T v → teach T = true → Below w0.heap.size w0 w → IsPow w0 → Bld w0.heap.size b L w →
    L.length + (tshow T).length ≤ 1000000000 →
    Calls Tryd.prog 33 #[.pointer (some ⟨b, 0, none⟩), v] w fun e w' => e = .returned (.tuple #[]) ∧ Bld w0.heap.size b (L ++ tshow T) w' ∧ Below w0.heap.size w w' ∧ Kept b w w' := by
  induction T using Ty.ind with
  | h op n l ih =>
    intro v w0 w b L hv he hb0 hp hB hlen
    have HFF : Hid Itoas := HF
    have HSS : Hid Writes := HS
    have HI : Hid (∀ t ∈ l, ∀ (v : Value) (w0 w : World) (b : Nat) (L : List Int), IsTy w0 t v → teach t = true → Below w0.heap.size w0 w → IsPow w0 → Bld w0.heap.size b L w → L.length + (tshow t).length ≤ 1000000000 →
      Calls Tryd.prog 33 #[.pointer (some ⟨b, 0, none⟩), v] w fun e w' => e = .returned (.tuple #[]) ∧ Bld w0.heap.size b (L ++ tshow t) w' ∧ Below w0.heap.size w w' ∧ Kept b w w') := ih
    obtain ⟨hpl, hpt⟩ := tpcs_text he
    have HL3 : Hid (l.length ≤ 3) := by
      rcases teach_cases he with ⟨-, -, e⟩ | ⟨-, -, e⟩ | ⟨-, -, x, e, -⟩ | ⟨-, -, x, y, e, -⟩ <;> (rw [Hid, e]; simp)
    have HE : Hid (teach (.mk op n l) = true) := he
    have HV : Hid (∀ w', Below w0.heap.size w0 w' → IsTy w' (.mk op n l) v) := fun w' h => isTy_below h _ _ hv
    have HPW : Hid (IsPow w0) := hp
    have HPP : Hid (∀ w', Below w0.heap.size w0 w' → IsPow w') := fun w' h => hp.below h
    unfold IsTy at hv
    obtain ⟨a, cap, rfl, t1, i1, hc1, hc2, hk⟩ := hv
    have HK : Hid (0 < l.length → ∃ b off, a = some ⟨b, off, none⟩ ∧ b < w0.heap.size ∧ TysAt w0 b off l) := hk
    obtain ⟨W, hW⟩ : ∃ W, W = w.alloc (.cells #[.string (Em.str op), .int .i64 n, .slice a l.length cap] 24) := ⟨_, rfl⟩
    have hwW : Below w.heap.size w W := by rw [hW]; exact (Below.refl _ _).alloc (Nat.le_refl _) _
    have hbW : Below w0.heap.size w W := hwW.mono hb0.size
    have hb0W : Below w0.heap.size w0 W := hb0.trans hbW
    have hBW : Bld w0.heap.size b L W := hB.below hwW
    have hkW : Kept b w W := kept_below hwW
    have hbx : W.heap[w.heap.size]? = some (.cells #[.string (Em.str op), .int .i64 n, .slice a l.length cap] 24 (0, 0)) := by rw [hW]; exact heap_new _ _
    have hblt := hB.lt
    have HWE : Hid (w.alloc (.cells #[.string (Em.str op), .int .i64 n, .slice a l.length cap] 24) = W) := hW.symm
    obtain ⟨ps, hps⟩ : ∃ ps, ps = tpcs op n := ⟨_, rfl⟩
    obtain ⟨ts, hts⟩ : ∃ ts, ts = tshows l := ⟨_, rfl⟩
    obtain ⟨R, hR⟩ : ∃ R, R = tshow (.mk op n l) := ⟨_, rfl⟩
    have HPS : Hid (tpcs op n = ps) := hps.symm
    have HTS : Hid (tshows l = ts) := hts.symm
    rw [← hR] at hlen hpt ⊢
    rw [← hps] at hpl hpt
    rw [← hts] at hpt
    have HPL : Hid (ps.length = l.length + 1) := hpl
    have HPT : Hid (tpart ps ts (l.length + 1) = R) := hpt
    have HLN : Hid (L.length + R.length ≤ 1000000000) := hlen
    have HB0 : Hid (Below w0.heap.size w0 w) := hb0
    clear ih HF HS he hp hk t1 i1 hps hts hR hlen hpl hpt hW hB
    go_enter Tryd.func33, Tryd.ntmps33
    go_wp2_with fail
    rw [HWE.out]
    clear HWE
    refine (ypieces_any HFF.out op n l _ _ (HV.out _ hb0W) HE.out (HPP.out _ hb0W)).mono ?_
    rintro e w1 ⟨pb, rfl, hpb, hpbl, hb1⟩
    rw [HPS.out] at hpb ⊢
    have hb1' : Below w0.heap.size W w1 := hb1.mono hb0W.size
    have hbx1 : w1.heap[w.heap.size]? = some (.cells #[.string (Em.str op), .int .i64 n, .slice a l.length cap] 24 (0, 0)) := by rw [hb1.block _ (heap_lt hbx)]; exact hbx
    have HX1 : Hid (w1.heap[w.heap.size]? = some (.cells #[.string (Em.str op), .int .i64 n, .slice a l.length cap] 24 (0, 0))) := hbx1
    have HPB : Hid (w1.heap[pb]? = some (.cells (txts ps).toArray 9 (0, 0))) := hpb
    have hB1 : Bld w0.heap.size b L w1 := hBW.below hb1
    have hw1 : Below w0.heap.size w w1 := hbW.trans hb1'
    have hk1 : Kept b w w1 := hkW.trans (kept_below hb1)
    have HNB : Hid (pb ≠ b) := by rw [Hid]; have := hBW.lt; omega
    have HNB2 : Hid (w.heap.size ≠ b) := by rw [Hid]; omega
    have hps1 : 1 ≤ ps.length := by have := HPL.out; omega
    have hpsM : ps.length ≤ 9223372036854775807 := by
      have h1 := HPL.out
      have h2 := HL3.out
      omega
    clear hbx hbx1 hpb hpbl hb1 hb1' hBW hkW hbW hb0W hwW hblt hb0
    go_wp2
    go_loopw [9] (fun i wr => ∃ k : Nat, k ≤ ps.length ∧ i = .int .i64 k ∧ Bld w0.heap.size b (L ++ tpart ps ts k) wr ∧ Below w0.heap.size w wr ∧ Kept b w wr ∧ Kept b w1 wr) (fun i _ => ps.length - (intOf i).toNat)
    case atStart => exact ⟨0, Nat.zero_le _, rfl, by simpa [tpart] using hB1, hw1, hk1, Lib.OthersKept.refl _ _ _⟩
    case round =>
      clear hB1 hw1 hk1
      obtain ⟨k, hk, rfl, hB, hbel, hkp, hkp1⟩ := hrel
      by_cases hlt : k < ps.length
      · have hcell : wr.cell? ⟨pb, k, none⟩ = some (.string (Em.str (tx ps k))) := by
          rw [Lib.cell_of_heap (hkp1 pb _ HPB.out (by simpa using HNB.out) (not_row str_ne8))]
          exact txts_get hlt
        have hjI : (k : Int) < (ps.length : Int) := by omega
        have HBL : Hid (Below w0.heap.size w wr) := hbel
        have HKP : Hid (Kept b w wr) := hkp
        have HK1 : Hid (Kept b w1 wr) := hkp1
        have HBB : Hid (Bld w0.heap.size b (L ++ tpart ps ts k) wr) := hB
        have HWZ : Hid (w0.heap.size ≤ wr.heap.size) := Nat.le_trans HB0.out.size hbel.size
        have HMO : Hid ((tpart ps ts (k + 1)).length ≤ R.length) := by
          rw [Hid, ← HPT.out]
          have := HPL.out
          exact tpart_mono _ _ _ _ (by omega)
        clear hbel hkp hkp1 hB
        by_cases h0 : k = 0
        · subst h0
          have HP1 : Hid (tpart ps ts 1 = tpart ps ts 0 ++ tx ps 0) := tpart_first ps ts
          go_wp2_with fail
          refine (HSS.out (L ++ tpart ps ts 0) (tx ps 0) w0.heap.size b _ HBB.out (by have h1 := HMO.out; have h2 := HLN.out; rw [HP1.out] at h1; simp only [List.length_append] at h1 ⊢; omega) HWZ.out).mono ?_
          rintro e w2 ⟨rfl, hB2, hb2, hk2⟩
          rw [List.append_assoc, ← HP1.out] at hB2
          have hbel2 : Below w0.heap.size w w2 := HBL.out.trans hb2
          have hkp2 : Kept b w w2 := HKP.out.trans hk2
          have hkp12 : Kept b w1 w2 := HK1.out.trans hk2
          clear hcell hb2 hk2
          go_wp2
          go_roundw
          case rel => exact ⟨1, by omega, by go_num, hB2, hbel2, hkp2, hkp12⟩
          case measure => simp [intOf]; omega
        · obtain ⟨j, rfl⟩ : ∃ j, k = j + 1 := ⟨k - 1, by omega⟩
          have hjl : j < l.length := by have := HPL.out; omega
          have g2 : wr.cell? ⟨w.heap.size, 2, none⟩ = some (.slice a l.length cap) := by
            rw [Lib.cell_of_heap (HK1.out _ _ HX1.out (by simpa using HNB2.out) (not_row type_ne8))]
            rfl
          obtain ⟨kb, off, rfl, hkb, hat⟩ := HK.out (by omega)
          obtain ⟨t, ht⟩ : ∃ t, l[j]? = some t := ⟨_, List.getElem?_eq_getElem hjl⟩
          obtain ⟨a', cap', k0, k1, k2, kn⟩ := ty_get hat ht
          have hb0r : Below w0.heap.size w0 wr := HB0.out.trans HBL.out
          have key : ∀ o, wr.cell? ⟨kb, o, none⟩ = w0.cell? ⟨kb, o, none⟩ := fun o => hb0r.cell (p := ⟨kb, o, none⟩) hkb
          rw [← key] at k0 k1 k2
          have HN : Hid (IsTy w0 t (.agg #[.string (Em.str t.op), .int .i64 t.n, .slice a' t.kids.length cap'])) := kn
          have HT : Hid (l[j]? = some t) := ht
          have HET : Hid (teach t = true) := teach_kids HE.out t (List.mem_of_getElem? ht)
          have HTX : Hid (tx ts j = tshow t) := by rw [Hid, ← HTS.out]; exact tshows_get l j t ht
          have HP1 : Hid (tpart ps ts (j + 1 + 1) = tpart ps ts (j + 1) ++ tshow t ++ tx ps (j + 1)) := by
            rw [Hid, tpart_next ps ts (j + 1) (by omega), ← HTX.out]; rfl
          have HB0R : Hid (Below w0.heap.size w0 wr) := hb0r
          have hjI2 : (j : Int) < (l.length : Int) := by omega
          have hjI3 : (j : Int) + 1 ≤ (l.length : Int) := by omega
          clear key kn ht hat h0 hb0r
          go_wp2_with fail
          refine (HI.out t (List.mem_of_getElem? HT.out) _ w0 _ b (L ++ tpart ps ts (j + 1)) HN.out HET.out HB0R.out HPW.out HBB.out (by have h1 := HMO.out; have h2 := HLN.out; rw [HP1.out] at h1; simp only [List.length_append] at h1 ⊢; omega)).mono ?_
          rintro e w2 ⟨rfl, hB2, hb2, hk2⟩
          have HB2 : Hid (Bld w0.heap.size b (L ++ tpart ps ts (j + 1) ++ tshow t) w2) := hB2
          have HBL2 : Hid (Below w0.heap.size w w2) := HBL.out.trans hb2
          have HKP2 : Hid (Kept b w w2) := HKP.out.trans hk2
          have HK12 : Hid (Kept b w1 w2) := HK1.out.trans hk2
          have HWZ2 : Hid (w0.heap.size ≤ w2.heap.size) := Nat.le_trans HWZ.out hb2.size
          clear k0 k1 k2 g2 hcell hB2 hb2 hk2
          go_wp2_with fail
          refine (HSS.out (L ++ tpart ps ts (j + 1) ++ tshow t) (tx ps (j + 1)) w0.heap.size b _ HB2.out (by have h1 := HMO.out; have h2 := HLN.out; rw [HP1.out] at h1; simp only [List.length_append] at h1 ⊢; omega) HWZ2.out).mono ?_
          rintro e w3 ⟨rfl, hB3, hb3, hk3⟩
          have hB3' : Bld w0.heap.size b (L ++ tpart ps ts (j + 1 + 1)) w3 := by rw [HP1.out]; simpa only [List.append_assoc] using hB3
          have hbel3 : Below w0.heap.size w w3 := HBL2.out.trans hb3
          have hkp3 : Kept b w w3 := HKP2.out.trans hk3
          have hkp13 : Kept b w1 w3 := HK12.out.trans hk3
          clear hB3 hb3 hk3
          go_wp2
          go_roundw
          case rel => exact ⟨j + 1 + 1, by omega, by go_num, hB3', hbel3, hkp3, hkp13⟩
          case measure => simp [intOf]; omega
      · have hke : k = l.length + 1 := by have := HPL.out; omega
        rw [hke, HPT.out] at hB
        go_wp2
        go_end0
        exact ⟨rfl, hB, hbel, hkp⟩
theorem dec_digs (m : Nat) : m ≤ 9223372036854775807 → Lib.decDigits m = (tdigs m).map fun n => UInt8.ofNat n.toNat := by
  induction m using Nat.strongRecOn with
  | ind m ih =>
    intro hm
    rw [Lib.decDigits]
    by_cases h10 : m < 10
    · rw [dif_pos h10, tdigs_lt h10]
      have e : ((48 : Int) + ((m : Nat) : Int)).toNat = 48 + m := by omega
      simp [e]
    · have e : ((48 : Int) + ((m % 10 : Nat) : Int)).toNat = 48 + m % 10 := by omega
      rw [dif_neg h10, tdigs_ge h10, ih (m / 10) (by omega) (by omega), List.map_append, List.map_cons, List.map_nil, e]
theorem itoa_digs (m : Nat) (hm : m ≤ 9223372036854775807) : (⟨(Lib.itoa (m : Int)).toArray⟩ : ByteArray) = Em.str (tdigs m) := by
  rw [Lib.itoa, if_neg (by omega), Int.toNat_natCast, dec_digs m hm]
  rfl
/-- strconv.Itoa, of what a var's number may be. -/
theorem itoas_any : Itoas := by
  intro m w hm hp
  refine (Any.strconv_Itoa Tryd.laysM171 (m : Int) (by omega) (by omega) w hp).mono ?_
  rintro e w' ⟨rfl, k, os, rfl⟩
  exact ⟨by rw [itoa_digs m (by omega)], Lib.below_grow _ _ (Nat.le_refl _) _ _⟩
theorem bstring_any (L : List Int) (B b : Nat) (w : World) (h : Bld B b L w) (hB : B ≤ w.heap.size) :
    Calls Tryd.prog 34 #[.pointer (some ⟨b, 0, none⟩)] w fun e w' => e = .returned (.string (Em.str L)) ∧ Below B w w' := by
  refine (Any.Builder_String_any_k Tryd.lays169 Tryd.Builder_Extra_169 B b (Em.str L).data.toList w h hB).mono ?_
  rintro e w' ⟨rfl, h1, h2, h3⟩
  exact ⟨rfl, h2⟩

set_option maxRecDepth 100000 in
set_option maxHeartbeats 4000000 in
theorem yShow_any (T : Ty) (v : Value) (w : World) (hv : IsTy w T v) (he : teach T = true) (hs : T.size ≤ 1000000) (hp : IsPow w) :
    Calls Tryd.prog 18 #[v] w fun e w' => e = .returned (.string (Em.str (tshow T))) ∧ Below w.heap.size w w' := by
  have HV : Hid (∀ w', Below w.heap.size w w' → IsTy w' T v) := fun w' h => isTy_below h _ _ hv
  have HE : Hid (teach T = true) := he
  have HLN : Hid (([] : List Int).length + (tshow T).length ≤ 1000000000) := by
    have := tshow_len T he (isTy_i64 T v hv)
    rw [Hid]; simp only [List.length_nil]; omega
  obtain ⟨op, n, l⟩ := T
  unfold IsTy at hv
  obtain ⟨a, cap, rfl, -⟩ := hv
  obtain ⟨w1, hw1⟩ : ∃ W, W = w.alloc (.cells #[.string (Em.str op), .int .i64 n, .slice a l.length cap] 24) := ⟨_, rfl⟩
  have hb1 : Below w.heap.size w w1 := by rw [hw1]; exact (Below.refl _ _).alloc (Nat.le_refl _) _
  obtain ⟨X, hX⟩ : ∃ X, X = w1.alloc (.cells #[.pointer none, .slice none 0 0] 46) := ⟨_, rfl⟩
  have hbX : Below w1.heap.size w1 X := by rw [hX]; exact (Below.refl _ _).alloc (Nat.le_refl _) _
  have hz : w.heap.size < w1.heap.size := by rw [hw1]; simp
  have key : ∀ o, X.cell? ⟨w.heap.size, o, none⟩ = w1.cell? ⟨w.heap.size, o, none⟩ := fun o => hbX.cell (p := ⟨w.heap.size, o, none⟩) hz
  have k0 : X.cell? ⟨w.heap.size, 0, none⟩ = some (.string (Em.str op)) := by rw [key, hw1]; simp
  have k1 : X.cell? ⟨w.heap.size, 1, none⟩ = some (.int .i64 n) := by rw [key, hw1]; simp
  have k2 : X.cell? ⟨w.heap.size, 2, none⟩ = some (.slice a l.length cap) := by rw [key, hw1]; simp
  have HBX : Hid (Below w1.heap.size w1 X) := hbX
  have HB : Hid (Bld w1.heap.size w1.heap.size [] X) := by rw [Hid, hX]; exact Lib.IsBuilderF.of (Lib.fresh_isBuilder _ _ w1)
  have HWE : Hid (w.alloc (.cells #[.string (Em.str op), .int .i64 n, .slice a l.length cap] 24) = w1) := hw1.symm
  have HX : Hid (w1.alloc (.cells #[.pointer none, .slice none 0 0] 46) = X) := hX.symm
  have HB1 : Hid (Below w.heap.size w w1) := hb1
  have HVT : Hid (IsTy w1 (.mk op n l) (.agg #[.string (Em.str op), .int .i64 n, .slice a l.length cap])) := HV.out _ hb1
  have HLP : Hid (IsPow w1) := hp.below hb1
  obtain ⟨T, hT⟩ : ∃ T, T = Ty.mk op n l := ⟨_, rfl⟩
  rw [← hT] at HV HE HLN HVT ⊢
  clear hX hbX hb1 hw1 hT hp he hs key hz
  go_enter Tryd.func18, Tryd.ntmps18
  go_upto_region 1 with fail
  rw [HWE.out]
  go_upto_region 2 with fail
  rw [HX.out]
  clear HX HWE
  go_wp2_with fail
  refine (ywrite_any itoas_any writes_any T _ w1 _ w1.heap.size [] HVT.out HE.out HBX.out HLP.out HB.out HLN.out).mono ?_
  rintro e w2 ⟨rfl, hB2, hb2, -⟩
  rw [List.nil_append] at hB2
  have HB2 : Hid (Bld w1.heap.size w1.heap.size (tshow T) w2) := hB2
  have HBL2 : Hid (Below w1.heap.size w1 w2) := HBX.out.trans hb2
  clear k0 k1 k2 hB2 hb2
  go_wp2_with fail
  refine (bstring_any (tshow T) w1.heap.size w1.heap.size _ HB2.out HBL2.out.size).mono ?_
  rintro e w3 ⟨rfl, hb3⟩
  have HBL3 : Hid (Below w.heap.size w w3) := HB1.out.trans ((HBL2.out.trans hb3).mono HB1.out.size)
  clear hb3
  go_wp2_with fail
  go_ret
  exact ⟨rfl, HBL3.out⟩
end Go.Proofs.YtcpimmapdhmoiaaDoor

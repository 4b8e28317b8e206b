/- What the document's own 'vars' and 'Vars' answer of types. -/
import Derived.Test.YtbiihiibebdjgaaRTypH
import Derived.Test.YtbiihiibebdjgaaRTypC
import Derived.Test.YtbiihiibebdjgaaMath8
import Derived.Test.YtbiihiibebdjgaaMath8t
import Derived.Deep.RegionHeldLaw
import Derived.Deep.DeepCutAuto
import Derived.Deep.CutBlock
namespace Go.Proofs.Ytbiihiibebdjgaa
open Go.RowKit
set_option linter.unusedSimpArgs false

set_option maxRecDepth 100000 in
set_option maxHeartbeats 2000000 in
theorem rtvars_len (T : Em8.Ty) : ∀ (v ov : Value) (out : List Int) (w0 w : World), Em8.IsTy w0 T v → Below w0.heap.size w0 w → OwnInts w w0.heap.size ov out → (∀ x ∈ out, Em5.I64 x) → (Em8.tvars T out).length ≤ 1000000 →
    Calls Try.prog 37 #[v, ov] w fun e w' => ∃ u, e = .returned u ∧ OwnInts w' w0.heap.size u (Em8.tvars T out) ∧ (∀ x ∈ Em8.tvars T out, Em5.I64 x) ∧ Grew w w' ov u := by
  induction T using Em8.Ty.ind with
  | h op n l ih =>
    intro v ov out w0 w hv hbw ho hi hs
    unfold Em8.IsTy at hv
    obtain ⟨a, cap, rfl, t1, i1, hc1, hc2, hk⟩ := hv
    have HI : Hid (∀ t ∈ l, ∀ (v ov : Value) (out : List Int) (w0 w : World), Em8.IsTy w0 t v → Below w0.heap.size w0 w → OwnInts w w0.heap.size ov out → (∀ x ∈ out, Em5.I64 x) → (Em8.tvars t out).length ≤ 1000000 →
      Calls Try.prog 37 #[v, ov] w fun e w' => ∃ u, e = .returned u ∧ OwnInts w' w0.heap.size u (Em8.tvars t out) ∧ (∀ x ∈ Em8.tvars t out, Em5.I64 x) ∧ Grew w w' ov u) := ih
    have HK : Hid (0 < l.length → ∃ b off, a = some ⟨b, off, none⟩ ∧ b < w0.heap.size ∧ Em8.TysAt w0 b off l) := hk
    obtain ⟨W, hW⟩ : ∃ W, W = w.alloc (.cells #[.string (Em.str op), .int .i64 n, .slice a l.length cap] 25) := ⟨_, rfl⟩
    have hbW : Below w.heap.size w W := by rw [hW]; exact (Below.refl _ _).alloc (Nat.le_refl _) _
    have k0 : W.cell? ⟨w.heap.size, 0, none⟩ = some (.string (Em.str op)) := by rw [hW]; simp
    have k1 : W.cell? ⟨w.heap.size, 1, none⟩ = some (.int .i64 n) := by rw [hW]; simp
    have k2 : W.cell? ⟨w.heap.size, 2, none⟩ = some (.slice a l.length cap) := by rw [hW]; simp
    have hWz : w.heap.size < W.heap.size := by rw [hW]; simp
    have HNE : Hid (some w.heap.size ≠ ov.ownBlock) := fun e => by have := (World.ownsRow.lt ho _ e.symm).2; omega
    have HOW : Hid (OwnInts W w0.heap.size ov out) := ho.below hbW
    have HBW : Hid (Below w0.heap.size w0 W) := hbw.trans (hbW.mono hbw.size)
    have HBX : Hid (W.cell? ⟨w.heap.size, 2, none⟩ = some (.slice a l.length cap)) := k2
    have HII : Hid (∀ x ∈ out, Em5.I64 x) := hi
    have HI1 : Hid (Em5.I64 n) := i1
    obtain ⟨b0, hb0⟩ : ∃ b0, b0 = decide (op = Em8.tVar) := ⟨_, rfl⟩
    have hq : ((Em.str op).toList == [118, 97, 114]) = b0 := by rw [Em5.str_eq t1.1, hb0]; rfl
    obtain ⟨b2, hb2⟩ : ∃ b2, b2 = decide (n ∈ out) := ⟨_, rfl⟩
    have HAD : Hid (Em8.tadd op n out = if (b0 && !b2) = true then out ++ [n] else out) := by
      rw [Hid, hb0, hb2, Em8.tadd]
      simp
    have HB2 : Hid (decide (n ∈ out) = b2) := hb2.symm
    have HG : Hid (Grew w W ov ov) := Grew.of_below hbW
    have HSZ : Hid ((Em8.tvars (.mk op n l) out).length ≤ 1000000) := hs
    have HGR : Hid (out.length ≤ (Em8.tvars (.mk op n l) out).length) := Em8.tvars_grow _ _
    clear ih hk t1 i1 ho hbw hi hs hb0 hb2
    go_enter Try.func37, Try.ntmps37
    go_upto_region 1 with fail
    rw [← hW]
    clear hW
    go_cut [15] from 6 (fun c wx => c = .bool (b0 && !b2) ∧ wx = W)
    case first =>
      have H2 : Hid (IsInts W ov out) := HOW.out.is HII.out
      obtain ⟨ao, co, rfl⟩ := HOW.out.form
      cases b0 <;> cases b2
      all_goals
        go_wp2_with (first | (go_at_call 18; refine (rtHas_any _ _ _ _ H2.out).mono ?_; rintro e w' ⟨rfl, rfl⟩; rw [HB2.out]))
        go_meet
        exact ⟨rfl, rfl⟩
    case rest =>
      obtain ⟨rfl, hwc⟩ := hcut
      rw [hwc]
      clear hwc
      go_upto_if 15 with fail
      go_cut [1] from 5 (fun o wx => OwnInts wx w0.heap.size o (Em8.tadd op n out) ∧ Grew W wx ov o)
      case first =>
        cases hA : (b0 && !b2) with
        | false =>
          go_wp2_with fail
          go_meet
          rw [HAD.out, hA]
          exact ⟨HOW.out, Grew.of_below (Below.refl _ _)⟩
        | true =>
          have HIN : Hid (Em8.tadd op n out = out ++ [n]) := by rw [Hid, HAD.out, hA]; rfl
          have hsm : out.length ≤ 1000000 := Nat.le_trans HGR.out HSZ.out
          clear hA
          go_wp2_with (at_builtin; refine wpList_app_int rfl _ _ rfl w0.heap.size _ out rfl HOW.out n _ (by simp) rfl (by omega) HBW.out.size ?_; intro v2 w2 o2 hg2)
          go_meet
          rw [HIN.out]
          exact ⟨o2, hg2⟩
      case rest =>
        obtain ⟨hov, hgr⟩ := hcut
        have HFR : Hid (Em8.tvars (.mk op n l) out = Em8.tvarss l (Em8.tadd op n out)) := Em8.tvars_eq op n l out
        have HOL : Hid ((Em8.tadd op n out).length ≤ out.length + 1) := Em8.tadd_len op n out
        have HOM : Hid (∀ x ∈ Em8.tadd op n out, Em5.I64 x) := Em8.tadd_mem HI1.out HII.out
        have HNS : Hid ((Em8.Ty.mk op n l).size = Em8.tsizes l + 1) := by rw [Hid, Em8.Ty.size]
        generalize Em8.tadd op n out = own0 at hov HFR HOL HOM
        clear HAD hbW k0 k1 k2 hWz hq HB2
        go_wp2_with fail
        go_loopw [1, 5] (fun u i wr => ∃ (j : Nat) (o : List Int), j ≤ l.length ∧ i = .int .i64 j ∧ OwnInts wr w0.heap.size u o ∧ Hid (∀ x ∈ o, Em5.I64 x) ∧ Grew W wr ov u ∧ Hid (o.length ≤ out.length + 1 + Em8.tsizes (l.take j)) ∧ Hid (Em8.tvars (.mk op n l) out = Em8.tvarss (l.drop j) o)) (fun _ i _ => l.length - (intOf i).toNat)
        case atStart => exact ⟨0, own0, Nat.zero_le _, rfl, hov, HOM, hgr, by simp [Hid, Em8.tsizes]; exact HOL.out, HFR.out⟩
        case round =>
          clear hov hgr HFR HOL HOM
          obtain ⟨j, o, hj, rfl, hu1, HM, hgr, HLO, HD⟩ := hrel
          have HGR : Hid (Grew W wr ov u1) := hgr
          have HU : Hid (OwnInts wr w0.heap.size u1 o) := hu1
          have k2 : wr.cell? ⟨w.heap.size, 2, none⟩ = some (.slice a l.length cap) := hgr.cell (a := ⟨w.heap.size, 2, none⟩) HBX.out HNE.out
          have hbr : Below w0.heap.size w0 wr := HBW.out.trans (hgr.below HOW.out HBW.out.size)
          have HBR : Hid (Below w0.heap.size w0 wr) := hbr
          clear hu1 hgr
          by_cases hlt : j < l.length
          · obtain ⟨b, off, rfl, hb, hat⟩ := HK.out (by omega)
            obtain ⟨t, ht⟩ : ∃ t, l[j]? = some t := ⟨_, List.getElem?_eq_getElem hlt⟩
            obtain ⟨c0, c1, c2, m0, m1, m2, kn⟩ := Em8.tysAt_get l off j t hat ht
            have key : ∀ o, wr.cell? ⟨b, o, none⟩ = w0.cell? ⟨b, o, none⟩ := fun o => hbr.cell (p := ⟨b, o, none⟩) hb
            rw [← key] at m0 m1 m2
            have HN : Hid (Em8.IsTy w0 t (.agg #[c0, c1, c2])) := kn
            have HTT : Hid (l[j]? = some t) := ht
            have HS2 : Hid ((Em8.tvars t o).length ≤ 1000000) := by
              have hd : l.drop j = t :: l.drop (j + 1) := by
                have hjl := (List.getElem?_eq_some_iff.1 HTT.out).1
                rw [List.drop_eq_getElem_cons hjl, (List.getElem?_eq_some_iff.1 HTT.out).2]
              have h1 := HSZ.out
              rw [HD.out, hd, Em8.tvarss] at h1
              exact Nat.le_trans (Em8.tvarss_grow _ _) h1
            clear key kn hat ht hbr
            go_wp2_with fail
            refine (HI.out t (List.mem_of_getElem? HTT.out) _ _ o w0 _ HN.out HBR.out HU.out HM.out HS2.out).mono ?_
            rintro e w3 ⟨u3, rfl, hu3, hm3, hg3⟩
            have HM3 : Hid (∀ x ∈ Em8.tvars t o, Em5.I64 x) := hm3
            have HG3 : Hid (Grew W w3 ov u3) := HGR.out.trans hg3
            clear hm3 hg3 k2 m0 m1 m2
            go_wp2
            go_roundw
            case rel =>
              refine ⟨j + 1, Em8.tvars t o, by omega, by go_num, hu3, HM3, HG3.out, ?_, ?_⟩
              · have h1 := Em8.tvars_len t o
                have h2 := HLO.out
                rw [Hid, Em8.tsizes_take l j t HTT.out]
                omega
              · have hd : l.drop j = t :: l.drop (j + 1) := by
                  have hjl := (List.getElem?_eq_some_iff.1 HTT.out).1
                  rw [List.drop_eq_getElem_cons hjl, (List.getElem?_eq_some_iff.1 HTT.out).2]
                rw [Hid, HD.out, hd, Em8.tvarss]
            case measure => simp [intOf]; omega
          · have HE : Hid (Em8.tvars (.mk op n l) out = o) := by rw [Hid, HD.out, List.drop_eq_nil_of_le (by omega), Em8.tvarss]
            go_wp2
            go_ret
            rw [HE.out]
            exact ⟨_, rfl, HU.out, HM.out, HG.out.trans HGR.out⟩

set_option maxRecDepth 100000 in
set_option maxHeartbeats 1000000 in
theorem rtVars_len (T : Em8.Ty) (v : Value) (w : World) (hv : Em8.IsTy w T v) (hs : (Em8.tvars T []).length ≤ 1000000) :
    Calls Try.prog 23 #[v] w fun e w' => ∃ u, e = .returned u ∧ OwnInts w' w.heap.size u (Em8.tvars T []) ∧ (∀ x ∈ Em8.tvars T [], Em5.I64 x) ∧ Below w.heap.size w w' := by
  have HV : Hid (Em8.IsTy w T v) := hv
  obtain ⟨op, n, l⟩ := T
  unfold Em8.IsTy at hv
  obtain ⟨a, cap, rfl, -⟩ := hv
  have HBE : Hid (Below w.heap.size w (w.alloc (.cells #[.string (Em.str op), .int .i64 n, .slice a l.length cap] 25))) := (Below.refl _ _).alloc (Nat.le_refl _) _
  have HSI : Hid ((Em8.tvars (.mk op n l) []).length ≤ 1000000) := hs
  clear hs
  go_enter Try.func23, Try.ntmps23
  go_wp2_with fail
  refine (rtvars_len _ _ _ [] w _ HV.out HBE.out (OwnInts.nil _ _) (by simp) HSI.out).mono ?_
  rintro e w1 ⟨u, rfl, hu, hm, hg⟩
  have HU : Hid (OwnInts w1 w.heap.size u (Em8.tvars (.mk op n l) []) ∧ (∀ x ∈ Em8.tvars (.mk op n l) [], Em5.I64 x) ∧ Below w.heap.size w w1) := ⟨hu, hm, HBE.out.trans (hg.below (OwnInts.nil _ _) HBE.out.size)⟩
  clear hu hm hg
  go_wp2
  go_ret
  exact ⟨u, rfl, HU.out⟩
theorem rtVars_any (T : Em8.Ty) (v : Value) (w : World) (hv : Em8.IsTy w T v) (hs : T.size ≤ 1000000) :
    Calls Try.prog 23 #[v] w fun e w' => ∃ u, e = .returned u ∧ OwnInts w' w.heap.size u (Em8.tvars T []) ∧ (∀ x ∈ Em8.tvars T [], Em5.I64 x) ∧ Below w.heap.size w w' :=
  rtVars_len T v w hv (by have := Em8.tvars_len T []; simp at this; omega)
end Go.Proofs.Ytbiihiibebdjgaa

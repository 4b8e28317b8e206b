/- What the program's own order.walk and Vars answer: a type's vars as they come first. -/
import Derived.Test.YtbiihiibebdjgaaTypO
import Derived.Test.YtbiihiibebdjgaaRTypC
import Derived.Deep.DeepCutAuto
import Derived.Deep.CutBlock
namespace Go.Proofs.Ytbiihiibebdjgaa
open Go.RowKit Go.Em8
set_option linter.unusedSimpArgs false

theorem tadd_addL (op : List Int) (n : Int) (L : List Int) : tadd op n L = if op = tVar then addL L n else L := by
  unfold tadd addL
  by_cases h1 : op = tVar <;> by_cases h2 : n ∈ L <;> simp [h1, h2]

set_option maxRecDepth 100000 in
set_option maxHeartbeats 4000000 in
theorem ywalk_any (T : Ty) : ∀ (v : Value) (w0 w : World) (B ob mb : Nat) (vv : Value) (L : List Int), IsTy w0 T v → Below w0.heap.size w0 w → w0.heap.size ≤ B → B ≤ w.heap.size → Ord w B ob mb vv L → L.length + T.size ≤ 1000000 →
    Calls Try.prog 36 #[.pointer (some ⟨ob, 0, none⟩), v] w fun e w' => e = .returned (.tuple #[]) ∧ (∃ v', Ord w' B ob mb v' (tvars T L)) ∧ Below B w w' := by
  induction T using Ty.ind with
  | h op n l ih =>
    intro v w0 w B ob mb vv L hv hbw hB0 hB hO hs
    have HI : Hid (∀ t ∈ l, ∀ (v : Value) (w0 w : World) (B ob mb : Nat) (vv : Value) (L : List Int), IsTy w0 t v → Below w0.heap.size w0 w → w0.heap.size ≤ B → B ≤ w.heap.size → Ord w B ob mb vv L → L.length + t.size ≤ 1000000 →
      Calls Try.prog 36 #[.pointer (some ⟨ob, 0, none⟩), v] w fun e w' => e = .returned (.tuple #[]) ∧ (∃ v', Ord w' B ob mb v' (tvars t L)) ∧ Below B w w') := ih
    unfold IsTy at hv
    obtain ⟨a, cap, rfl, t1, i1, hc1, hc2, hk⟩ := hv
    have HK : Hid (0 < l.length → ∃ b off, a = some ⟨b, off, none⟩ ∧ b < w0.heap.size ∧ TysAt w0 b off l) := hk
    obtain ⟨b0, hb0⟩ : ∃ b0, b0 = decide (op = tVar) := ⟨_, rfl⟩
    have hq : ((Em.str op).toList == [118, 97, 114]) = b0 := by rw [Em5.str_eq t1.1, hb0]; rfl
    have HAD : Hid (tadd op n L = if b0 = true then addL L n else L) := by rw [Hid, tadd_addL, hb0]; simp
    obtain ⟨W, hW⟩ : ∃ W, W = w.alloc (.cells #[.string (Em.str op), .int .i64 n, .slice a l.length cap] 25) := ⟨_, rfl⟩
    have hbW : Below w.heap.size w W := by rw [hW]; exact (Below.refl _ _).alloc (Nat.le_refl _) _
    have k0 : W.cell? ⟨w.heap.size, 0, none⟩ = some (.string (Em.str op)) := by rw [hW]; simp
    have k1 : W.cell? ⟨w.heap.size, 1, none⟩ = some (.int .i64 n) := by rw [hW]; simp
    have k2 : W.cell? ⟨w.heap.size, 2, none⟩ = some (.slice a l.length cap) := by rw [hW]; simp
    have hWz : w.heap.size < W.heap.size := by rw [hW]; simp
    have HOW : Hid (Ord W B ob mb vv L) := hO.below hbW
    have HNO : Hid (¬ Ord.Of ob mb vv w.heap.size) := fun h => absurd (hO.of_lt h).2 (by omega)
    have HBB : Hid (Below B w W ∧ B ≤ W.heap.size) := ⟨hbW.mono hB, Nat.le_trans hB hbW.size⟩
    have HWE : Hid (w.alloc (.cells #[.string (Em.str op), .int .i64 n, .slice a l.length cap] 25) = W) := hW.symm
    have HB0 : Hid (Below w0.heap.size w0 w ∧ w0.heap.size ≤ B) := ⟨hbw, hB0⟩
    have HSZ : Hid (L.length + (tsizes l + 1) ≤ 1000000) := by rw [Ty.size] at hs; exact hs
    have HI1 : Hid (Em5.I64 n) := i1
    have HFR : Hid (tvars (.mk op n l) L = tvarss l (tadd op n L)) := tvars_eq op n l L
    have HOL : Hid ((tadd op n L).length ≤ L.length + 1) := tadd_len op n L
    generalize tadd op n L = L1 at HAD HFR HOL
    clear ih hk t1 i1 hbw hB0 hB hO hs hb0 hW
    have main : ∀ (X : World), (∃ v', Ord X B ob mb v' L1) → Below B w X → X.cell? ⟨w.heap.size, 2, none⟩ = some (.slice a l.length cap) → B ≤ X.heap.size → True := fun _ _ _ _ _ => trivial
    clear main
    go_enter Try.func36, Try.ntmps36
    go_upto_region 1 with fail
    rw [HWE.out]
    go_upto_if 8 with fail
    go_cut [3] from 4 (fun s wx => s = .pointer (some ⟨w.heap.size, 0, none⟩) ∧ Hid ((∃ v', Ord wx B ob mb v' L1) ∧ Below B w wx ∧ B ≤ wx.heap.size) ∧ wx.cell? ⟨w.heap.size, 2, none⟩ = some (.slice a l.length cap))
    case first =>
      cases b0 with
      | false =>
        have HL1 : Hid (L1 = L) := HAD.out
        go_wp2_with fail
        go_meet
        exact ⟨rfl, ⟨⟨_, by rw [HL1.out]; exact HOW.out⟩, HBB.out⟩, k2⟩
      | true =>
        have HL1 : Hid (L1 = addL L n) := HAD.out
        go_wp2_with fail
        refine (yadd_any W B ob mb vv L n HOW.out HI1.out (by have := HSZ.out; omega) HBB.out.2).mono ?_
        rintro e X ⟨rfl, hoX, hbX, hkX⟩
        have HX : Hid ((∃ v', Ord X B ob mb v' L1) ∧ Below B w X ∧ B ≤ X.heap.size) := by
          rw [Hid, HL1.out]
          exact ⟨hoX, HBB.out.1.trans hbX, Nat.le_trans HBB.out.2 hbX.size⟩
        have x2 : X.cell? ⟨w.heap.size, 2, none⟩ = some (.slice a l.length cap) := by
          rw [World.cell?_of_block (w := W) (a := ⟨w.heap.size, 2, none⟩) (hkX _ hWz HNO.out)]; exact k2
        clear hoX hbX hkX k0 k1 k2
        go_wp2_with fail
        go_meet
        exact ⟨rfl, HX, x2⟩
    case rest =>
      obtain ⟨rfl, HX, x2⟩ := hcut
      clear k0 k1 k2 hWz HAD HOW HWE HNO hbW HBB hq
      go_wp2_with fail
      go_loopw [16] (fun i wr => ∃ (j : Nat) (L2 : List Int), j ≤ l.length ∧ i = .int .i64 j ∧ Hid ((∃ v', Ord wr B ob mb v' L2) ∧ Below B w wr ∧ B ≤ wr.heap.size ∧ L2.length ≤ L.length + 1 + tsizes (l.take j) ∧ tvars (.mk op n l) L = tvarss (l.drop j) L2)) (fun i _ => l.length - (intOf i).toNat)
      case atStart => exact ⟨0, L1, Nat.zero_le _, rfl, HX.out.1, HX.out.2.1, HX.out.2.2, by have := HOL.out; simp [tsizes]; exact this, HFR.out⟩
      case round =>
        clear x2 HX HFR HOL
        obtain ⟨j, L2, hj, rfl, HR⟩ := hrel
        by_cases hlt : j < l.length
        · obtain ⟨b, off, rfl, hb, hat⟩ := HK.out (by omega)
          obtain ⟨t, ht⟩ : ∃ t, l[j]? = some t := ⟨_, List.getElem?_eq_getElem hlt⟩
          obtain ⟨a', cap', m0, m1, m2, kn⟩ := ty_get hat ht
          have hbr : Below w0.heap.size w0 wr := HB0.out.1.trans (HR.out.2.1.mono HB0.out.2)
          have key : ∀ o, wr.cell? ⟨b, o, none⟩ = w0.cell? ⟨b, o, none⟩ := fun o => hbr.cell (p := ⟨b, o, none⟩) hb
          rw [← key] at m0 m1 m2
          obtain ⟨W1, hW1⟩ : ∃ W1, W1 = wr.alloc (.cells #[.string (Em.str t.op), .int .i64 t.n, .slice a' t.kids.length cap'] 25) := ⟨_, rfl⟩
          have hb1 : Below wr.heap.size wr W1 := by rw [hW1]; exact (Below.refl _ _).alloc (Nat.le_refl _) _
          have HW1 : Hid (wr.alloc (.cells #[.string (Em.str t.op), .int .i64 t.n, .slice a' t.kids.length cap'] 25) = W1) := hW1.symm
          have H1 : Hid ((∃ v', Ord W1 B ob mb v' L2) ∧ Below B w W1 ∧ B ≤ W1.heap.size ∧ Below w0.heap.size w0 W1) := by
            obtain ⟨⟨v', z1⟩, z2, z3, -⟩ := HR.out
            exact ⟨⟨v', z1.below hb1⟩, z2.trans (hb1.mono z3), Nat.le_trans z3 hb1.size, hbr.trans (hb1.mono hbr.size)⟩
          have HN : Hid (IsTy w0 t (.agg #[.string (Em.str t.op), .int .i64 t.n, .slice a' t.kids.length cap'])) := kn
          have HTT : Hid (l[j]? = some t) := ht
          have HS2 : Hid (L2.length + t.size ≤ 1000000) := by
            have h1 := HSZ.out
            have h3 := tsizes_take l j t HTT.out
            have h4 := tsizes_take_le l (j + 1)
            have h5 := HR.out.2.2.2.1
            rw [Hid]
            omega
          have c0 : W1.cell? ⟨wr.heap.size, 0, none⟩ = some (.string (Em.str t.op)) := by rw [hW1]; simp
          have c1 : W1.cell? ⟨wr.heap.size, 1, none⟩ = some (.int .i64 t.n) := by rw [hW1]; simp
          have c2 : W1.cell? ⟨wr.heap.size, 2, none⟩ = some (.slice a' t.kids.length cap') := by rw [hW1]; simp
          have hjI : (j : Int) < (l.length : Int) := by omega
          clear key kn hat ht hbr hW1 hb1
          go_upto_region 6 with fail
          rw [HW1.out]
          clear HW1 m0 m1 m2
          obtain ⟨vv2, ho2⟩ := H1.out.1
          have HO2 : Hid (Ord W1 B ob mb vv2 L2) := ho2
          clear ho2
          go_wp2_with fail
          refine (HI.out t (List.mem_of_getElem? HTT.out) _ w0 _ B ob mb _ L2 HN.out H1.out.2.2.2 HB0.out.2 H1.out.2.2.1 HO2.out HS2.out).mono ?_
          rintro e w3 ⟨rfl, ho3, hb3⟩
          have H3 : Hid ((∃ v', Ord w3 B ob mb v' (tvars t L2)) ∧ Below B w w3 ∧ B ≤ w3.heap.size ∧ (tvars t L2).length ≤ L.length + 1 + tsizes (l.take (j + 1)) ∧ tvars (.mk op n l) L = tvarss (l.drop (j + 1)) (tvars t L2)) := by
            obtain ⟨-, z2, z3, -⟩ := H1.out
            refine ⟨ho3, z2.trans hb3, Nat.le_trans z3 hb3.size, ?_, ?_⟩
            · have h1 := tvars_len t L2
              have h2 := HR.out.2.2.2.1
              rw [tsizes_take l j t HTT.out]
              omega
            · have hd : l.drop j = t :: l.drop (j + 1) := by
                have hjl := (List.getElem?_eq_some_iff.1 HTT.out).1
                rw [List.drop_eq_getElem_cons hjl, (List.getElem?_eq_some_iff.1 HTT.out).2]
              rw [HR.out.2.2.2.2, hd, tvarss]
          clear ho3 hb3 c0 c1 c2
          go_wp2
          go_roundw
          case rel => exact ⟨j + 1, tvars t L2, by omega, by go_num, H3⟩
          case measure => simp [intOf]; omega
        · have HE : Hid ((∃ v', Ord wr B ob mb v' (tvars (.mk op n l) L)) ∧ Below B w wr) := by
            obtain ⟨z1, z2, -, -, z5⟩ := HR.out
            rw [List.drop_eq_nil_of_le (by omega), tvarss] at z5
            rw [Hid, z5]
            exact ⟨z1, z2⟩
          go_wp2
          (try simp only [Exit.inBlock, Exit.then]); refine bodyPost_end (results_none rfl _ _ _) rfl ?_
          exact ⟨rfl, HE.out⟩

set_option maxRecDepth 100000 in
set_option maxHeartbeats 1000000 in
theorem yVars_any (T : Ty) (v : Value) (w : World) (hv : IsTy w T v) (hs : T.size ≤ 1000000) :
    Calls Try.prog 21 #[v] w fun e w' => ∃ u, e = .returned u ∧ OwnInts w' w.heap.size u (tvars T []) ∧ (∀ x ∈ tvars T [], Em5.I64 x) ∧ Below w.heap.size w w' := by
  have HV : Hid (IsTy w T v) := hv
  have HSI : Hid (([] : List Int).length + T.size ≤ 1000000) := by rw [Hid]; simpa using hs
  obtain ⟨op, n, l⟩ := T
  unfold IsTy at hv
  obtain ⟨a, cap, rfl, -⟩ := hv
  obtain ⟨W0, hW0⟩ : ∃ W0, W0 = w.alloc (.cells #[.string (Em.str op), .int .i64 n, .slice a l.length cap] 25) := ⟨_, rfl⟩
  have hz0 : w.heap.size + 1 = W0.heap.size := by rw [hW0]; simp
  obtain ⟨W, hW⟩ : ∃ W, W = (W0.alloc (.map #[] 0)).alloc (.cells #[.slice none 0 0, .map (some (w.heap.size + 1))] 66) := ⟨_, rfl⟩
  have ho := ord_start W0 hz0
  rw [← hW] at ho
  have hb0 : Below w.heap.size w W0 := by rw [hW0]; exact (Below.refl _ _).alloc (Nat.le_refl _) _
  have hbW : Below W0.heap.size W0 W := by rw [hW]; exact ((Below.refl _ _).alloc (Nat.le_refl _) _).alloc (by simp) _
  have key : ∀ o, W.cell? ⟨w.heap.size, o, none⟩ = W0.cell? ⟨w.heap.size, o, none⟩ := fun o => hbW.cell (p := ⟨w.heap.size, o, none⟩) (by simp only; omega)
  have k0 : W.cell? ⟨w.heap.size, 0, none⟩ = some (.string (Em.str op)) := by rw [key, hW0]; simp
  have k1 : W.cell? ⟨w.heap.size, 1, none⟩ = some (.int .i64 n) := by rw [key, hW0]; simp
  have k2 : W.cell? ⟨w.heap.size, 2, none⟩ = some (.slice a l.length cap) := by rw [key, hW0]; simp
  have HO : Hid (Ord W (w.heap.size + 1) (w.heap.size + 1 + 1) (w.heap.size + 1) (.slice none 0 0) []) := ho
  have HB : Hid (Below w.heap.size w W) := hb0.trans (hbW.mono hb0.size)
  have HBZ : Hid (w.heap.size + 1 ≤ W.heap.size) := by rw [Hid, hz0]; exact hbW.size
  have hm1 : ∀ w, Sem.run Try.prog (Instr.makeMap 64 none) w = .ok (.map (some w.heap.size)) (w.alloc (.map #[] 0)) := run_makeMap _
  rw [hW0] at hW
  have HWE : Hid (((w.alloc (.cells #[.string (Em.str op), .int .i64 n, .slice a l.length cap] 25)).alloc (.map #[] 0)).alloc (.cells #[.slice none 0 0, .map (some (w.heap.size + 1))] 66) = W) := hW.symm
  clear hs ho hb0 hbW key hW hW0 hz0
  go_enter Try.func21, Try.ntmps21
  go_upto_region 2 with fail
  rw [HWE.out]
  clear HWE hm1
  go_wp2_with fail
  refine (ywalk_any _ _ w _ (w.heap.size + 1) _ _ _ [] HV.out HB.out (by omega) HBZ.out HO.out HSI.out).mono ?_
  rintro e w1 ⟨rfl, ⟨v1, h1⟩, hb1⟩
  have c0 := h1.c0
  have HU : Hid (OwnInts w1 w.heap.size v1 (tvars (.mk op n l) []) ∧ (∀ x ∈ tvars (.mk op n l) [], Em5.I64 x) ∧ Below w.heap.size w w1) := ⟨h1.own.base (by omega), h1.i64, HB.out.trans (hb1.mono (by omega))⟩
  clear h1 hb1 k0 k1 k2
  go_wp2
  go_ret
  exact ⟨v1, rfl, HU.out⟩
end Go.Proofs.Ytbiihiibebdjgaa

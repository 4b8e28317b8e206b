/- FrameRow: frames, one behind the other, are had one by one. No condition. -/
import Derived.Test.YtecoopclaogoiaaRows
import Derived.Test.YtecoopclaogoiaaKnown3
import Derived.Test.YtecoopclaogoiaaFrame2
import Derived.Test.YtecoopclaogoiaaRows2
import Derived.Deep.RegionHeld
import Derived.BigQuiet
namespace Go.Proofs.Ytecoopclaogoiaa
open Go.ChangeShapes Go.WideShapes Go.ChangeAt Go.RowKit
set_option linter.unusedVariables false

/-- The frames of some bodies, one behind the other. -/
def frs : List Int → List (List Int) → List Int
  | _, [] => []
  | K, B :: R => Em3.frm (K.headD 0) B ++ frs K.tail R
theorem frs_step {K : List Int} {R : List (List Int)} {j : Nat} (h : j < R.length) : frs (K.drop j) (R.drop j) = Em3.frm (K[j]?.getD 0) (R[j]?.getD []) ++ frs (K.drop (j + 1)) (R.drop (j + 1)) := by
  rw [List.drop_eq_getElem_cons h]
  simp [frs, List.getElem?_eq_getElem h, List.headD_eq_head?_getD, List.head?_drop, List.tail_drop]
theorem frs_cut {K : List Int} {R : List (List Int)} {j : Nat} (h : j < R.length) : frs K (R.take (j + 1)) = frs K (R.take j) ++ Em3.frm (K[j]?.getD 0) (R[j]?.getD []) := by
  induction j generalizing K R with
  | zero =>
    cases R with
    | nil => simp at h
    | cons B R => cases K <;> simp [frs]
  | succ j ih =>
    cases R with
    | nil => simp at h
    | cons B R =>
      simp only [List.length_cons] at h
      rw [List.take_succ_cons, List.take_succ_cons]
      simp only [frs]
      rw [ih (K := K.tail) (by omega), List.append_assoc]
      simp
theorem frs_bytes {K : List Int} : ∀ {R : List (List Int)}, (∀ j, j < R.length → 0 ≤ K[j]?.getD 0 ∧ K[j]?.getD 0 ≤ 255) → (∀ j, j < R.length → (∀ x ∈ R[j]?.getD [], 0 ≤ x ∧ x ≤ 255) ∧ (R[j]?.getD []).length < 18446744073709551616) → ∀ x ∈ frs K R, 0 ≤ x ∧ x ≤ 255
  | [], _, _ => by simp [frs]
  | B :: R, hK, hR => by
    intro x hx
    simp only [frs, List.mem_append] at hx
    have h0 := hK 0 (by simp)
    have h1 := hR 0 (by simp)
    have e0 : K.headD 0 = K[0]?.getD 0 := by cases K <;> simp
    rcases hx with hx | hx
    · rw [e0] at hx
      exact Em3.frm_bytes h0.1 h0.2 h1.1 h1.2 x hx
    · refine frs_bytes (K := K.tail) (R := R) (fun j hj => ?_) (fun j hj => ?_) x hx
      · have := hK (j + 1) (by simp; omega)
        cases K with
        | nil => simp
        | cons _ _ => simpa using this
      · have := hR (j + 1) (by simp; omega)
        simpa using this
theorem frs_len {K : List Int} : ∀ {R : List (List Int)}, (∀ B ∈ R, B.length ≤ 200) → (frs K R).length ≤ 220 * R.length
  | [], _ => by simp [frs]
  | B :: R, h => by
    have h1 := frs_len (K := K.tail) (R := R) (fun B hB => h B (by simp [hB]))
    have h2 := h B (by simp)
    have h3 := Em1.put_len B.length
    simp only [frs, List.length_append, Em3.frm_len, List.length_cons]
    omega

set_option maxRecDepth 100000 in
set_option maxHeartbeats 2000000 in
theorem walk_frameRow (w : World) (x y : Value) (hx : ∃ L, Em.IsBytes w x L ∧ L.length ≤ 140737488351232) (hy : ∃ R, Em.IsRows w y R ∧ ∀ L ∈ R, L.length ≤ 140737488351232) :
    Calls Try.prog 7 #[x, y] w fun e w' => e = .returned (.bool true) ∧ Below w.heap.size w w' := by
  obtain ⟨K, hx, -⟩ := hx
  obtain ⟨R, hy, hsm⟩ := hy
  have HSM : Hid (∀ L ∈ R, L.length ≤ 140737488351232) := hsm
  clear hsm
  have hlen := hy.len
  have hlenK := hx.len
  have HKB : Hid (∀ x ∈ K, 0 ≤ x ∧ x ≤ 255) := hx.bd
  obtain ⟨a, cap, rfl, hcap1, hcap2, hnil, hcells⟩ := id hy
  obtain ⟨ak, capk, rfl, hcapk1, hcapk2, hnilk, -, hcellk⟩ := id hx
  have HR : Hid (0 < R.length → ∃ b off, a = some ⟨b, off, none⟩ ∧ ∀ j, j < R.length → ∃ s, w.cell? ⟨b, off + j, none⟩ = some s ∧ Em.IsBytes w s (R[j]?.getD [])) := by
    intro hp
    obtain ⟨b, off, cap', e, -, -, hc⟩ := hy.plain hp
    injection e with e1 e2 e3
    exact ⟨b, off, e1, hc⟩
  have HK : Hid (0 < K.length → ∃ b off, ak = some ⟨b, off, none⟩ ∧ ∀ j, j < K.length → w.cell? ⟨b, off + j, none⟩ = some (.int .u8 (K.getD j 0))) := by
    intro hp
    obtain ⟨b, off, cap', e, -, -, hc⟩ := hx.plain hp
    injection e with e1 e2 e3
    exact ⟨b, off, e1, hc⟩
  clear hcells hnil hy hcellk hnilk hx
  by_cases h10 : 10 < R.length
  · go_enter Try.func7, Try.ntmps7
    go_wp2_with fail
    go_ret
    exact ⟨rfl, Below.refl _ _⟩
  by_cases hkr : K.length < R.length
  · go_enter Try.func7, Try.ntmps7
    go_wp2_with fail
    go_ret
    exact ⟨rfl, Below.refl _ _⟩
  go_enter Try.func7, Try.ntmps7
  go_wp2
  go_loopw [5, 6] (fun u i wr => ∃ (k : Nat) (xs : List Int), i = .int .i64 k ∧ k ≤ R.length ∧ xs.length ≤ 220 * k ∧ Own wr w.heap.size u xs ∧ Below w.heap.size w wr ∧ Hid (xs = frs K (R.take k)) ∧ Hid (∀ j, j < k → (R[j]?.getD []).length ≤ 200)) (fun _ i _ => R.length - (intOf i).toNat)
  case atStart => exact ⟨0, [], rfl, Nat.zero_le _, by simp, World.ownsRow_nil _ _ _ _, Below.refl _ _, rfl, fun j h => by omega⟩
  case round =>
    obtain ⟨k, xs, rfl, hk, hx, hown, hbel, HD, HS⟩ := hrel
    obtain ⟨ao, gc, rfl⟩ := own_form hown
    by_cases hlt : k < R.length
    · obtain ⟨b, off, ha, hc⟩ := HR.out (by omega)
      subst ha
      obtain ⟨bk, offk, hak, hck⟩ := HK.out (by omega)
      subst hak
      obtain ⟨s, hcell, hs⟩ := hc k hlt
      have hcellk := hck k (by omega)
      obtain ⟨c, hcd⟩ : ∃ c, c = K.getD k 0 := ⟨_, rfl⟩
      have hcb := Em.getD_bd HKB.out k
      rw [show K[k]?.getD 0 = c from by rw [hcd]; simp] at hcb
      rw [← hcd] at hcellk
      have HCL : Hid (∀ w', Below w.heap.size w w' → w'.cell? ⟨b, off + k, none⟩ = some s ∧ w'.cell? ⟨bk, offk + k, none⟩ = some (.int .u8 c)) := fun w' hw => ⟨by rw [hw.cell (Em.cell_lt hcell)]; exact hcell, by rw [hw.cell (Em.cell_lt hcellk)]; exact hcellk⟩
      have hcell' := (HCL.out _ hbel).1
      obtain ⟨L, hL⟩ : ∃ L, L = R[k]?.getD [] := ⟨_, rfl⟩
      rw [← hL] at hs
      have HL : Hid (∀ w', Below w.heap.size w w' → Em.IsBytes w' s L) := fun w' hw => hs.below hw
      have HF : Hid (frs K (R.take (k + 1)) = xs ++ Em3.frm c L) := by rw [Hid, frs_cut hlt, ← hL, HD.out, hcd]; simp
      have hll : L.length ≤ 140737488351232 := by rw [hL, List.getElem?_eq_getElem hlt]; exact HSM.out _ (List.getElem_mem hlt)
      have HSN : Hid (L.length ≤ 200 → ∀ j, j < k + 1 → (R[j]?.getD []).length ≤ 200) := by
        intro h j hj
        rcases Nat.lt_succ_iff_lt_or_eq.1 hj with h1 | rfl
        · exact HS.out j h1
        · rw [← hL]; exact h
      obtain ⟨ra, rc, rfl, hr1, hr2, hr3, -, -⟩ := id hs
      have hfl := Em3.frm_len c L
      have hpl := Em1.put_len L.length
      have hf2 : (Em3.frm c L).length ≤ L.length + 16 := by omega
      clear hL hc hck hcell hcellk hs HD HS hcd hr3 hfl hpl
      by_cases h200 : 200 < L.length
      · go_wp2_with fail
        go_ret
        exact ⟨rfl, hbel⟩
      have bel0 : Below w.heap.size w wr.drew := hbel.drew
      go_wp2_with fail
      go_region_held (fun w' => Below w.heap.size w w' ∧ w'.cell? ⟨b, off + k, none⟩ = some (.slice ra L.length rc) ∧ w'.cell? ⟨bk, offk + k, none⟩ = some (.int .u8 c))
        (first | exact ⟨bel2, HCL.out _ bel2⟩ | exact ⟨bel0, HCL.out _ bel0⟩)
        (first | (go_at_call 9; refine (rfput_any c _ L _ hcb.1 hcb.2 (HL.out _ bel0) (by omega)).mono ?_; rintro e w2 ⟨u2, rfl, hown2, hbel2⟩; have bel2 : Below w.heap.size w w2 := bel0.trans (hbel2.mono bel0.size); have o2 : Own w2 w.heap.size _ xs := own_below (w := wr.drew) hown hbel2; have n2 := Em.IsBytes.own (Em3.frm_bytes hcb.1 hcb.2 (HL.out _ bel0).bd (by omega)) hown2; clear hown2 hbel2))
      all_goals
        obtain ⟨F, hF⟩ : ∃ F, F = Em3.frm c L := ⟨_, rfl⟩
        rw [← hF] at n2 hf2
        have HFF : Hid (F = Em3.frm c L) := hF
        clear hF hown hbel bel0
        go_wp2_with (at_builtin; refine wpList_app rfl (.tmp 48) (.tmp 49) rfl w.heap.size _ xs rfl o2 _ F rfl n2 (by omega) bel2.size ?_; intro v4 w4 o4 _ hb4; have bel4 := bel2.trans hb4; clear o2 n2 hb4 bel2)
        go_roundw
        case rel => exact ⟨k + 1, xs ++ F, by go_num, by omega, by simp; omega, o4, bel4, by rw [Hid, HF.out, HFF.out], HSN.out (by omega)⟩
        case measure => simp [intOf]; omega
    · have HX : Hid (xs = frs K R) := by rw [Hid, HD.out, List.take_of_length_le (by omega)]
      have hk2 : k = R.length := by omega
      subst hk2
      have HXB : Hid (∀ x ∈ xs, 0 ≤ x ∧ x ≤ 255) := by
        intro x hx2
        rw [HX.out] at hx2
        refine frs_bytes (fun j hj => Em.getD_bd HKB.out j) (fun j hj => ?_) x hx2
        obtain ⟨b, off, -, hc⟩ := HR.out (by omega)
        obtain ⟨s, -, hs⟩ := hc j hj
        exact ⟨hs.bd, by have := hs.len; omega⟩
      have hI := Em.IsBytes.own HXB.out hown
      have hbel9 := hbel
      clear hown HD hbel hlt
      go_wp2
      go_loopw [5, 9] (fun u i wt => ∃ (k : Nat) (xs : List Int), i = .int .i64 k ∧ k ≤ R.length ∧ Em.IsBytes wt u xs ∧ Below w.heap.size w wt ∧ Hid (xs = frs (K.drop k) (R.drop k))) (fun _ i _ => R.length - (intOf i).toNat)
      case atStart => exact ⟨0, xs, rfl, Nat.zero_le _, hI, hbel9, by simpa using HX⟩
      case round =>
        clear HX HXB hI hx hbel9
        obtain ⟨k, ys, rfl, hk, hI, hbel, HD⟩ := hrel
        by_cases hlt : k < R.length
        · obtain ⟨b, off, ha, hc⟩ := HR.out (by omega)
          subst ha
          obtain ⟨bk, offk, hak, hck⟩ := HK.out (by omega)
          subst hak
          obtain ⟨s, hcell, hs⟩ := hc k hlt
          have hcellk := hck k (by omega)
          obtain ⟨c, hcd⟩ : ∃ c, c = K.getD k 0 := ⟨_, rfl⟩
          rw [← hcd] at hcellk
          have HCL : Hid (∀ w', Below w.heap.size w w' → w'.cell? ⟨b, off + k, none⟩ = some s ∧ w'.cell? ⟨bk, offk + k, none⟩ = some (.int .u8 c)) := fun w' hw => ⟨by rw [hw.cell (Em.cell_lt hcell)]; exact hcell, by rw [hw.cell (Em.cell_lt hcellk)]; exact hcellk⟩
          obtain ⟨L, hL⟩ : ∃ L, L = R[k]?.getD [] := ⟨_, rfl⟩
          rw [← hL] at hs
          have hl2 : L.length ≤ 200 := by rw [hL]; exact HS.out k hlt
          have HL : Hid (∀ w', Below w.heap.size w w' → Em.IsBytes w' s L) := fun w' hw => hs.below hw
          have HN : Hid (ys = Em3.frm c L ++ frs (K.drop (k + 1)) (R.drop (k + 1))) := by rw [Hid, HD.out, frs_step hlt, ← hL, hcd]; simp
          have hfl := Em3.frm_len c L
          have HG : Hid (Em3.fget ys = some (c, L, (Em3.frm c L).length)) := by rw [Hid, HN.out]; exact Em3.fget_frm c L _ (by omega)
          obtain ⟨F, hF⟩ : ∃ F, F = Em3.frm c L := ⟨_, rfl⟩
          rw [← hF] at HN HG hfl
          have hf1 : 1 ≤ F.length := by omega
          have hf2 : F.length ≤ ys.length := by rw [HN.out]; simp
          have HT : Hid (ys.drop F.length = frs (K.drop (k + 1)) (R.drop (k + 1))) := by rw [Hid, HN.out]; simp
          have hyl := hI.len
          obtain ⟨ra, rc, rfl, -⟩ := id hs
          obtain ⟨by0, oy, cy, rfl, hy1, hy2, -⟩ := hI.plain (by omega)
          have HSL : Hid (∀ w', Below wr.heap.size wr w' → Em.IsBytes w' (sliced (some ⟨by0, oy, none⟩) F.length ys.length cy 1) (ys.drop F.length)) := by
            intro w' hw
            have := (hI.below hw).sliced F.length ys.length hf2 (Nat.le_refl _)
            rwa [List.take_of_length_le (by simp)] at this
          clear hL hc hck hcell hcellk hs HD hcd hF hfl HN
          go_wp2_with fail
          refine (fget_any _ _ _ hI).mono ?_
          rintro e w2 ⟨hgot, hb2⟩
          rw [HG.out] at hgot
          have bel2 : Below w.heap.size w w2 := hbel.trans (hb2.mono hbel.size)
          have n2 := HSL.out _ hb2
          rw [HT.out] at n2
          simp only [FGot] at hgot
          obtain ⟨v2, rfl, m2⟩ := hgot
          obtain ⟨a2, c2, rfl, -⟩ := id m2
          have bel3 : Below w.heap.size w w2.drew := bel2.drew
          have hcs := HCL.out _ bel3
          have hs1 := Em.run_str (P := Try.prog) 22 9 5 Try.underlying22 Try.underlying5 Try.underlying9 (m2.below (Below.refl _ _).drew)
          have hs2 := Em.run_str (P := Try.prog) 22 9 5 Try.underlying22 Try.underlying5 Try.underlying9 (HL.out _ bel3)
          have heq : ((Em.str L).toList == (Em.str L).toList) = true := by simp
          have hne : ((Em.str L).toList != (Em.str L).toList) = false := by simp
          have hd1 : decide ((F.length : Int) < 1) = false := by simp; omega
          have hd2 : decide ((ys.length : Int) < (F.length : Int)) = false := by simp; omega
          clear hb2 hI hbel m2 HSL
          go_wp2_with fail
          go_region_held (fun w' => w' = w2.drew ∧ w'.cell? ⟨b, off + k, none⟩ = some (.slice ra L.length rc) ∧ w'.cell? ⟨bk, offk + k, none⟩ = some (.int .u8 c) ∧ (convert 22 9 (.slice a2 L.length c2)).run Try.prog w' = .ok (.string (Em.str L)) w' ∧ (convert 22 9 (.slice ra L.length rc)).run Try.prog w' = .ok (.string (Em.str L)) w')
            (exact ⟨rfl, hcs.1, hcs.2, hs1, hs2⟩)
            (fail)
          all_goals
            have n3 := n2.below (Below.refl _ _).drew
            have hf0 : ¬ F.length = 0 := by omega
            by_cases hcy : cy = F.length
            · simp only [sliced, hcy, if_true, Nat.sub_self, show ys.length - F.length = 0 by omega] at n3
              subst hcy
              go_wp2_with fail
              go_roundw
              case rel => exact ⟨k + 1, _, by go_num, by omega, n3, bel3, rfl⟩
              case measure => simp [intOf]; omega
            · simp only [sliced, hcy, if_false, Option.map_some, Nat.mul_one, Addr.add, hf0] at n3
              go_wp2_with fail
              go_roundw
              case rel => exact ⟨k + 1, _, by go_num, by omega, n3, bel3, rfl⟩
              case measure => simp [intOf]; omega
        · have hy0 : ys = [] := by rw [HD.out, show R.drop k = [] from List.drop_eq_nil_of_le (by omega)]; rfl
          subst hy0
          obtain ⟨a3, c3, rfl, -, -⟩ := hI.empty rfl
          clear hI HD
          go_wp2_with fail
          refine (known3_any _).mono ?_
          rintro e w5 ⟨rfl, hb5⟩
          have bel5 : Below w.heap.size w w5 := hbel.trans (hb5.mono hbel.size)
          go_wp2_with fail
          go_ret
          exact ⟨rfl, bel5⟩

theorem frameRow_own : ownKnob Try.prog.godebug = none := by kernel_rfl
theorem frameRow_laidOut : laidOutB Try.prog = true := by kernel_rfl
set_option maxRecDepth 100000 in
theorem frameRow_lifted (os : Os) (started : os.Started) (H : Type) (enc : TypeId × Value → H) :
    ReturnsInHanded {} Try.checked os 7 .any (Rows.frameRowSpec.pre6 enc Try.prog Try.f7 Rows.frameRowRow.domain false) (Rows.frameRowSpec.post enc Try.prog Try.f7 false true false false) := by
  refine returnsInHanded_of_change_sized (C := Try.checked) frameRow_own started (by kernel_rfl) Try.func7
    (ChangeSpec.witness6 (enc := enc) (C := Try.checked) false ⟨#[], #[.slice none 0 0, .slice none 0 0], []⟩ 8 (by kernel_rfl) (by kernel_rfl) (by kernel_rfl) (by kernel_rfl)) ?_
  intro W base args ds gs before hval0 hW hcnd hsz0 _
  have hval : ∀ (j : Nat) t v, Try.f7.params[j]? = some t → args[j]? = some v → Value.okWide Try.prog W .any base t v := hval0
  have hW' := hW
  obtain ⟨p, q, hA0, hV, rfl, hfz, hnd⟩ := hW
  have hA : DataW.TrodAll enc Try.prog W 0 (fun _ => true) true Try.f7.params.toList args.toList ds p := hA0
  have hsz : (DataW.weightsEach Try.prog (Try.f7.params.toList ++ Rows.frameRowSpec.plain.varTypes Try.prog) (ds ++ gs)).all (· ≤ reachBytes) = true := hsz0
  rw [Try.params7] at hA hval hsz
  obtain ⟨v0, vs0, d0, ds0, p0, q0, hargs, rfl, rfl, h0, r0⟩ := trodAll_cons hA
  obtain ⟨v1, vs1, d1, ds1, p1, q1, rfl, rfl, rfl, h1, r1⟩ := trodAll_cons r0
  obtain ⟨rfl, rfl, rfl⟩ := trodAll_nil r1
  obtain rfl : args = #[v0, v1] := by cases args; simp_all
  obtain ⟨rfl, rfl⟩ := trodVars_none hV
  have lt0 : ∀ x ∈ p0, x.block < W.heap.size := by obtain ⟨m, hm⟩ := h0; exact DataW.trod_lt m _ _ _ hm
  have o0 := Em.open_bytes_s (e := 5) Try.underlying22 Try.underlying5 (by kernel_rfl) (by kernel_rfl) (hval 0 22 v0 rfl rfl) h0 (Em.sized_arg hsz 0 rfl rfl)
  have lt1 : ∀ x ∈ p1, x.block < W.heap.size := by obtain ⟨m, hm⟩ := h1; exact DataW.trod_lt m _ _ _ hm
  have o1 := Em.open_rows_s (e := 22) (q := 5) Try.underlying32 Try.underlying22 Try.underlying5 (by kernel_rfl) (by kernel_rfl) (by kernel_rfl) (hval 1 32 v1 rfl rfl) h1 (Em.sized_arg hsz 1 rfl rfl)
  clear hsz0 hsz
  clear hA0 hval0
  refine (walk_frameRow W v0 v1 o0 o1).mono fun e W' ⟨he, bel⟩ => ?_
  subst he
  exact ⟨_, rfl, _, _, _, [], _, [], hW', trodAll_mk1 (shut_bool Try.underlying4 _), (trodAll_cons_mk (Below.trod frameRow_laidOut (by kernel_rfl) (of_decide_eq_true (by kernel_rfl)) h0 bel lt0) (trodAll_cons_mk (Below.trod frameRow_laidOut (by kernel_rfl) (of_decide_eq_true (by kernel_rfl)) h1 bel lt1) trodAll_mk0)), rfl, bel.frame _, fun h => by cases h⟩
theorem frameRow_holds : Rows.FrameRowSaid :=
  OpenClaim.holds_of_wide 7 Try.f7 rfl rfl rfl rfl rfl rfl rfl ⟨rfl, rfl, rfl, rfl, rfl⟩ rfl rfl rfl rfl rfl (by kernel_rfl) Try.func7 (by kernel_rfl)
    (of_decide_eq_true (by kernel_rfl)) (by unfold Func.isWrapper; first | (rw [if_pos (by decide +kernel)]; kernel_rfl) | (rw [if_neg (by decide +kernel)]; exact ⟨rfl, rfl⟩))
    (fun os started H enc _ => frameRow_lifted os started H enc)
#print axioms frameRow_holds
end Go.Proofs.Ytecoopclaogoiaa

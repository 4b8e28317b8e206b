/- SumRows: how bytes are parted into rows does not matter. No condition. -/
import Derived.Test.YtidlpnbmenfimaaKnown2
import Derived.Test.YtidlpnbmenfimaaFrame2
import Derived.Laws.AppendOwnNone
import Derived.Laws.OwnMore
namespace Go.Proofs.Ytidlpnbmenfimaa
open Go.ChangeShapes Go.WideShapes Go.ChangeAt Go.RowKit
set_option linter.unusedVariables false

theorem flatr1 (L : List Int) : List.flatten [L] = L := by simp
theorem infoByte2 : (Try.prog.info? 5).map (fun i => (i.zero, i.size, i.bytes)) = some (some (.int .u8 0), 1, 1) := by kernel_rfl
abbrev Own (w : World) (B : Nat) (v : Value) (L : List Int) : Prop := w.ownsRow B 5 1 v L.length (L.map (Value.int .u8))
theorem own_app {w : World} {B : Nat} {u : Value} {xs L : List Int} (h : w.ownsRow B 5 1 u (xs.length + L.length) (xs.map (Value.int .u8) ++ L.map (Value.int .u8))) : Own w B u (xs ++ L) := by
  unfold Own; simpa using h
theorem take_flat {R : List (List Int)} {k : Nat} (h : k < R.length) : (R.take (k + 1)).flatten = (R.take k).flatten ++ R[k]?.getD [] := by
  rw [List.take_succ_eq_append_getElem h, List.flatten_append, List.getElem?_eq_getElem h]; simp

set_option maxRecDepth 100000 in
set_option maxHeartbeats 1000000 in
theorem walk_sumRows (w : World) (y : Value) (hy : ∃ R, Em.IsRows w y R ∧ ∀ L ∈ R, L.length ≤ 140737488351232) :
    Calls Try.prog 4 #[y] w fun e w' => e = .returned (.bool true) ∧ Below w.heap.size w w' := by
  obtain ⟨R, hy, hsm⟩ := hy
  have HSM : Hid (∀ L ∈ R, L.length ≤ 140737488351232) := hsm
  clear hsm
  have hlen := hy.len
  have HY : Hid (∀ w', Below w.heap.size w w' → Em.IsRows w' y R) := fun w' h => hy.below h
  obtain ⟨i0, hi, hz0, hz1, hz2⟩ := info_parts infoByte2
  obtain ⟨a, cap, rfl, hcap1, hcap2, hnil, hcells⟩ := id hy
  have HR : Hid (0 < R.length → ∃ b off, a = some ⟨b, off, none⟩ ∧ ∀ j, j < R.length → ∃ s, w.cell? ⟨b, off + j, none⟩ = some s ∧ Em.IsBytes w s (R[j]?.getD [])) := by
    intro hp
    obtain ⟨b, off, cap', e, -, -, hc⟩ := hy.plain hp
    injection e with e1 e2 e3
    exact ⟨b, off, e1, hc⟩
  clear hcells hnil hy
  go_enter Try.func4, Try.ntmps4
  go_wp2
  go_loopw [3, 4] (fun u i wr => ∃ (k : Nat) (xs : List Int), i = .int .i64 k ∧ k ≤ R.length ∧ xs.length ≤ 1000 ∧ Own wr w.heap.size u xs ∧ Below w.heap.size w wr ∧ Hid (xs = (R.take k).flatten)) (fun _ i _ => R.length - (intOf i).toNat)
  case atStart => exact ⟨0, [], rfl, Nat.zero_le _, by simp, World.ownsRow_nil _ _ _ _, Below.refl _ _, rfl⟩
  case round =>
    obtain ⟨k, xs, rfl, hk, hx, hown, hbel, HD⟩ := hrel
    obtain ⟨ao, gc, rfl⟩ : ∃ ao gc, u3 = .slice ao xs.length gc := by
      rcases hown.2 with ⟨h1, h2⟩ | ⟨g, gc, cur, h1, -⟩
      · exact ⟨none, 0, by rw [h1, h2]⟩
      · exact ⟨_, _, h1⟩
    by_cases hlt : k < R.length
    · obtain ⟨b, off, ha, hc⟩ := HR.out (by omega)
      subst ha
      obtain ⟨s, hcell, hs⟩ := hc k hlt
      have hcell' : wr.cell? ⟨b, off + k, none⟩ = some s := by rw [hbel.cell (Em.cell_lt hcell)]; exact hcell
      have HS : Hid (R[k]?.getD [] = R[k]?.getD []) := rfl
      obtain ⟨L, hL⟩ : ∃ L, L = R[k]?.getD [] := ⟨_, rfl⟩
      rw [← hL] at hs
      have HL : Hid ((R.take (k + 1)).flatten = xs ++ L) := by rw [Hid, take_flat hlt, hL, HD.out]
      have hs' := hs.below hbel
      have hll : L.length ≤ 140737488351232 := by rw [hL, List.getElem?_eq_getElem hlt]; exact HSM.out _ (List.getElem_mem hlt)
      obtain ⟨ra, rc, rfl, hr1, hr2, hr3, -, -⟩ := id hs
      clear hL hc hcell hs HS HD
      by_cases h100 : 100 < k
      · go_wp2_with fail
        go_ret
        exact ⟨rfl, hbel⟩
      by_cases h1000 : 1000 < xs.length + L.length
      · go_wp2_with fail
        go_ret
        exact ⟨rfl, hbel⟩
      cases ra with
      | none =>
        have hL0 : L = [] := List.length_eq_zero_iff.1 (by have := hr3 rfl; omega)
        subst hL0
        have hc0 := hr3 rfl
        subst hc0
        clear hr3 hs'
        go_wp2_with (at_builtin; refine wpList_append_own_none rfl _ _ 22 rfl w.heap.size 5 i0 1 Try.underlying22 hi _ _ _ rfl hown rfl ?_)
        go_roundw
        case rel => exact ⟨k + 1, xs, by go_num, by omega, hx, hown, hbel, by rw [Hid, HL.out]; simp⟩
        case measure => simp [intOf]; omega
      | some rad =>
        have n1 := hs'.news
        clear hr3 hs'
        go_wp2_with (at_builtin; refine wpList_append_own _ rfl _ _ 22 rfl w.heap.size 5 i0 (.int .u8 0) 1 1 Try.underlying22 hi hz0 hz1 hz2 rfl (by decide) _ _ _ rfl hown rad L.length rc (L.map (Value.int .u8)) rfl (by simp) n1 (Em.oneCells L) (by unfold maxLen; omega) (by omega) hbel.size ?_; intro v2 w2 hown2 hgrow2 _; have bel2 : Below w.heap.size w w2 := hbel.grown hgrow2 hbel.size (fun k hk => (hown.lt k hk).1); clear hown hgrow2 n1)
        go_roundw
        case rel => exact ⟨k + 1, xs ++ L, by go_num, by omega, by simp; omega, own_app hown2, bel2, by rw [Hid, HL.out]⟩
        case measure => simp [intOf]; omega
    · have HX : Hid (xs = R.flatten) := by rw [Hid, HD.out, List.take_of_length_le (by omega)]
      have hbx : ∀ x ∈ xs, 0 ≤ x ∧ x ≤ 255 := by
        intro x hx'
        rw [HX.out] at hx'
        obtain ⟨L, hL, hxL⟩ := List.mem_flatten.1 hx'
        obtain ⟨j, hj, rfl⟩ := List.getElem_of_mem hL
        obtain ⟨b, off, -, hc⟩ := HR.out (by omega)
        obtain ⟨s, -, hs⟩ := hc j hj
        rw [List.getElem?_eq_getElem hj] at hs
        exact hs.bd x hxL
      have hB := Em.IsBytes.own hbx hown
      have HB : Hid (∀ w', Below wr.heap.size wr w' → Em.IsBytes w' (.slice ao xs.length gc) xs) := fun w' h => hB.below h
      have hb1 : Below wr.heap.size wr (wr.alloc (.cells #[.slice ao xs.length gc] 22)) := (Below.refl _ _).alloc (Nat.le_refl _) _
      have hb2 := hb1.alloc hb1.size (.cells #[.slice ao xs.length gc] 22)
      clear hB hbx hown HD HR
      go_wp2_with fail
      refine (adler_any _ _ _ (HY.out _ hbel)).mono ?_
      rintro e w1 ⟨rfl, rfl⟩
      rw [← HX.out]
      go_wp2_with fail
      refine (adler_any _ _ _ (Em.rows_one _ 22 (by simp) (HB.out _ (Below.refl _ _)))).mono ?_
      rintro e w1 ⟨rfl, rfl⟩
      rw [flatr1]
      go_wp2_with fail
      refine (mark_any _ _ _ (HY.out _ (hbel.trans (hb1.mono hbel.size)))).mono ?_
      rintro e w1 ⟨rfl, rfl⟩
      rw [← HX.out]
      go_wp2_with fail
      refine (mark_any _ _ _ (Em.rows_one _ 22 (by simp) (HB.out _ hb1))).mono ?_
      rintro e w1 ⟨rfl, rfl⟩
      rw [flatr1]
      go_wp2_with fail
      refine (known2_any _).mono ?_
      rintro e w6 ⟨rfl, hb7⟩
      have bel6 : Below w.heap.size w w6 := (hbel.trans (hb2.mono hbel.size)).trans (hb7.mono (hbel.trans (hb2.mono hbel.size)).size)
      clear hb7 hb1 hb2
      go_wp2_with fail
      go_ret
      exact ⟨rfl, bel6⟩

theorem sumRows_own : ownKnob Try.prog.godebug = none := by kernel_rfl
theorem sumRows_laidOut : laidOutB Try.prog = true := by kernel_rfl
set_option maxRecDepth 100000 in
theorem sumRows_lifted (os : Os) (started : os.Started) (H : Type) (enc : TypeId × Value → H) :
    ReturnsInHanded {} Try.checked os 4 .any (Rows.sumRowsSpec.pre6 enc Try.prog Try.f4 Rows.sumRowsRow.domain false) (Rows.sumRowsSpec.post enc Try.prog Try.f4 false true false false) := by
  refine returnsInHanded_of_change_sized (C := Try.checked) sumRows_own started (by kernel_rfl) Try.func4
    (ChangeSpec.witness6 (enc := enc) (C := Try.checked) false ⟨#[], #[.slice none 0 0], []⟩ 8 (by kernel_rfl) (by kernel_rfl) (by kernel_rfl) (by kernel_rfl)) ?_
  intro W base args ds gs before hval0 hW hcnd hsz0 _
  have hval : ∀ (j : Nat) t v, Try.f4.params[j]? = some t → args[j]? = some v → Value.okWide Try.prog W .any base t v := hval0
  have hW' := hW
  obtain ⟨p, q, hA0, hV, rfl, hfz, hnd⟩ := hW
  have hA : DataW.TrodAll enc Try.prog W 0 (fun _ => true) true Try.f4.params.toList args.toList ds p := hA0
  have hsz : (DataW.weightsEach Try.prog (Try.f4.params.toList ++ Rows.sumRowsSpec.plain.varTypes Try.prog) (ds ++ gs)).all (· ≤ reachBytes) = true := hsz0
  rw [Try.params4] at hA hval hsz
  obtain ⟨v0, vs0, d0, ds0, p0, q0, hargs, rfl, rfl, h0, r0⟩ := trodAll_cons hA
  obtain ⟨rfl, rfl, rfl⟩ := trodAll_nil r0
  obtain rfl : args = #[v0] := by cases args; simp_all
  obtain ⟨rfl, rfl⟩ := trodVars_none hV
  have lt0 : ∀ x ∈ p0, x.block < W.heap.size := by obtain ⟨m, hm⟩ := h0; exact DataW.trod_lt m _ _ _ hm
  have o0 := Em.open_rows_s (e := 22) (q := 5) Try.underlying31 Try.underlying22 Try.underlying5 (by kernel_rfl) (by kernel_rfl) (by kernel_rfl) (hval 0 31 v0 rfl rfl) h0 (Em.sized_arg hsz 0 rfl rfl)
  clear hsz0 hsz
  clear hA0 hval0
  refine (walk_sumRows W v0 o0).mono fun e W' ⟨he, bel⟩ => ?_
  subst he
  exact ⟨_, rfl, _, _, _, [], _, [], hW', trodAll_mk1 (shut_bool Try.underlying4 _), (trodAll_cons_mk (Below.trod sumRows_laidOut (by kernel_rfl) (of_decide_eq_true (by kernel_rfl)) h0 bel lt0) trodAll_mk0), rfl, bel.frame _, fun h => by cases h⟩
theorem sumRows_holds : Rows.SumRowsSaid :=
  OpenClaim.holds_of_wide 4 Try.f4 rfl rfl rfl rfl rfl rfl rfl ⟨rfl, rfl, rfl, rfl, rfl⟩ rfl rfl rfl rfl rfl (by kernel_rfl) Try.func4 (by kernel_rfl)
    (of_decide_eq_true (by kernel_rfl)) (by unfold Func.isWrapper; first | (rw [if_pos (by decide +kernel)]; kernel_rfl) | (rw [if_neg (by decide +kernel)]; exact ⟨rfl, rfl⟩))
    (fun os started H enc _ => sumRows_lifted os started H enc)
#print axioms sumRows_holds
end Go.Proofs.Ytidlpnbmenfimaa

/- SumNext: a byte more behind turns the sum and the mark as the document says. No condition. -/
import Derived.Test.YtidlpnbmenfimaaKnown2
import Derived.Test.YtidlpnbmenfimaaFrame
namespace Go.Proofs.Ytidlpnbmenfimaa
open Go.ChangeShapes Go.WideShapes Go.ChangeAt Go.RowKit
set_option linter.unusedVariables false

theorem flatn1 (L : List Int) : List.flatten [L] = L := by simp
theorem flatn2 (L M : List Int) : List.flatten [L, M] = L ++ M := by simp
theorem mask16 {x : Int} (h0 : 0 ≤ x) (h1 : x ≤ 4293984240) : bits .and .u32 x 65535 = x % 65536 := by
  rw [u32_and _ _ h0 (by omega) (by omega) (by omega)]
  have : (65535 : Int).toNat = 2 ^ 16 - 1 := rfl
  rw [this, Nat.and_two_pow_sub_one_eq_mod]
  omega
theorem or16 {hi lo : Int} (h0 : 0 ≤ hi) (h1 : hi < 65521) (l0 : 0 ≤ lo) (l1 : lo < 65521) : bits .or .u32 (hi * 65536) lo = hi * 65536 + lo := by
  rw [u32_or _ _ (by omega) (by omega) (by omega) (by omega)]
  have e : (hi * 65536).toNat = 2 ^ 16 * hi.toNat := by omega
  rw [e, ← Nat.two_pow_add_eq_or_of_lt (by omega)]
  omega
theorem bytes_one (w : World) (t : TypeId) {g : Nat} (hg : g = w.heap.size) (c : Int) (h0 : 0 ≤ c) (h1 : c ≤ 255) : Em.IsBytes (w.alloc (.cells #[.int .u8 c] t)) (.slice (some ⟨g, 0, none⟩) 1 1) [c] := by
  subst hg
  refine ⟨some ⟨w.heap.size, 0, none⟩, 1, rfl, by simp, by simp [maxLen], (fun h => by cases h), by simp; omega, fun j hj => ⟨_, rfl, ?_⟩⟩
  have : j = 0 := by simp at hj; omega
  subst this; simp [Addr.add]

set_option maxRecDepth 100000 in
set_option maxHeartbeats 1000000 in
theorem walk_sumNext (w : World) (y z : Value) (hy : ∃ L, Em.IsBytes w y L) (hz : ∃ n, z = .int .u8 n ∧ (Lit.int .u8 n).wf = true) :
    Calls Try.prog 6 #[y, z] w fun e w' => e = .returned (.bool true) ∧ Below w.heap.size w w' := by
  obtain ⟨L, hy⟩ := hy
  obtain ⟨c, rfl, wc⟩ := hz
  obtain ⟨hc0, hc1⟩ := bounds_u8 wc
  clear wc
  have hlen := hy.len
  have HY : Hid (∀ w', Below w.heap.size w w' → Em.IsBytes w' y L) := fun w' h => hy.below h
  obtain ⟨a, cap, rfl, hcap1, hcap2, hnil, hbd, hcells⟩ := id hy
  clear hcells hbd hnil hy
  by_cases h50 : 1000 < L.length
  · go_enter Try.func6, Try.ntmps6
    go_wp2_with fail
    go_ret
    exact ⟨rfl, Below.refl _ _⟩
  · obtain ⟨A, hA⟩ : ∃ A, A = Em2.adler L := ⟨_, rfl⟩
    obtain ⟨M, hM⟩ : ∃ M, M = Em2.mark L := ⟨_, rfl⟩
    have hAb := Em2.adler_bd L
    have hAn := Em2.adler_next L c
    have hMb := Em2.mark_bd L
    have hMn := Em2.mark_next L c
    rw [← hA] at hAb hAn
    rw [← hM] at hMb hMn
    have HA : Hid (Em2.adler L = A) := hA.symm
    have HM : Hid (Em2.mark L = M) := hM.symm
    obtain ⟨hA0, hA1⟩ := hAb
    have hmask := mask16 hA0 hA1
    have HN : Hid (Em2.adler (L ++ [c]) = (A / 65536 + (A % 65536 + c) % 65521) % 65521 * 65536 + (A % 65536 + c) % 65521) := hAn
    have HMN : Hid (Em2.mark (L ++ [c]) = Em2.mst M c) := hMn
    have hor := or16 (hi := (A / 65536 + (A % 65536 + c)) % 65521) (lo := (A % 65536 + c) % 65521) (by omega) (by omega) (by omega) (by omega)
    clear hA hM hAn hMn hMb
    have hb1 : Below w.heap.size w (w.alloc (.cells #[.slice a L.length cap] 22)) := (Below.refl _ _).alloc (Nat.le_refl _) _
    have hb2 := hb1.alloc hb1.size (.cells #[.int .u8 c] 5)
    go_enter Try.func6, Try.ntmps6
    go_wp2_with fail
    refine (adler_any _ _ _ (Em.rows_one _ 22 (by simp) (HY.out _ (Below.refl _ _)))).mono ?_
    rintro e w1 ⟨rfl, rfl⟩
    rw [flatn1, HA.out]
    go_wp2_with fail
    refine (adler_any _ _ _ (Em.rows_two _ 22 (by simp) (HY.out _ hb2) (bytes_one _ 5 (by simp) c hc0 hc1))).mono ?_
    rintro e w1 ⟨rfl, rfl⟩
    rw [flatn2, HN.out, show (A / 65536 + (A % 65536 + c) % 65521) % 65521 = (A / 65536 + (A % 65536 + c)) % 65521 from by omega]
    have hb3 := hb2.alloc hb2.size (.cells #[.slice a L.length cap, .slice (some ⟨w.heap.size + 1, 0, none⟩) 1 1] 22)
    have hb4 := hb3.alloc hb3.size (.cells #[.int .u8 c] 5)
    go_wp2_with fail
    refine (mark_any _ _ _ (Em.rows_two _ 22 (by simp) (HY.out _ hb4) (bytes_one _ 5 (by simp) c hc0 hc1))).mono ?_
    rintro e w1 ⟨rfl, rfl⟩
    rw [flatn2, HMN.out]
    have hb5 := hb4.alloc hb4.size (.cells #[.slice a L.length cap, .slice (some ⟨w.heap.size + 3, 0, none⟩) 1 1] 22)
    have hb6 := hb5.alloc hb5.size (.cells #[.slice a L.length cap] 22)
    go_wp2_with fail
    refine (mark_any _ _ _ (Em.rows_one _ 22 (by simp) (HY.out _ hb5))).mono ?_
    rintro e w1 ⟨rfl, rfl⟩
    rw [flatn1, HM.out]
    have HB6 : Hid (Below w.heap.size w _) := hb6
    clear hb1 hb2 hb3 hb4 hb5 hb6
    unfold Em2.mst
    go_wp2_with fail
    refine (known2_any _).mono ?_
    rintro e w6 ⟨rfl, hb7⟩
    have bel6 : Below w.heap.size w w6 := HB6.out.trans (hb7.mono HB6.out.size)
    clear hb7 HB6
    go_wp2_with fail
    go_ret
    exact ⟨rfl, bel6⟩

theorem sumNext_own : ownKnob Try.prog.godebug = none := by kernel_rfl
theorem sumNext_laidOut : laidOutB Try.prog = true := by kernel_rfl
set_option maxRecDepth 100000 in
theorem sumNext_lifted (os : Os) (started : os.Started) (H : Type) (enc : TypeId × Value → H) :
    ReturnsInHanded {} Try.checked os 6 .any (Rows.sumNextSpec.pre6 enc Try.prog Try.f6 Rows.sumNextRow.domain false) (Rows.sumNextSpec.post enc Try.prog Try.f6 false true false false) := by
  refine returnsInHanded_of_change (C := Try.checked) sumNext_own started (by kernel_rfl) Try.func6
    (ChangeSpec.witness6 (enc := enc) (C := Try.checked) false ⟨#[], #[.slice none 0 0, .int .u8 0], []⟩ 8 (by kernel_rfl) (by kernel_rfl) (by kernel_rfl) (by kernel_rfl)) ?_
  intro W base args ds gs before hval0 hW hcnd _
  have hval : ∀ (j : Nat) t v, Try.f6.params[j]? = some t → args[j]? = some v → Value.okWide Try.prog W .any base t v := hval0
  have hW' := hW
  obtain ⟨p, q, hA0, hV, rfl, hfz, hnd⟩ := hW
  have hA : DataW.TrodAll enc Try.prog W 0 (fun _ => true) true Try.f6.params.toList args.toList ds p := hA0
  rw [Try.params6] at hA hval
  obtain ⟨v0, vs0, d0, ds0, p0, q0, hargs, rfl, rfl, h0, r0⟩ := trodAll_cons hA
  obtain ⟨v1, vs1, d1, ds1, p1, q1, rfl, rfl, rfl, h1, r1⟩ := trodAll_cons r0
  obtain ⟨rfl, rfl, rfl⟩ := trodAll_nil r1
  obtain rfl : args = #[v0, v1] := by cases args; simp_all
  obtain ⟨rfl, rfl⟩ := trodVars_none hV
  have lt0 : ∀ x ∈ p0, x.block < W.heap.size := by obtain ⟨m, hm⟩ := h0; exact DataW.trod_lt m _ _ _ hm
  have o0 := Em.open_bytes (e := 5) Try.underlying22 Try.underlying5 (by kernel_rfl) (hval 0 22 v0 rfl rfl) h0
  have lt1 : ∀ x ∈ p1, x.block < W.heap.size := by obtain ⟨m, hm⟩ := h1; exact DataW.trod_lt m _ _ _ hm
  have o1 := Em.open_int Try.underlying5 (hval 1 5 v1 rfl rfl) h1
  clear hA0 hval0
  refine (walk_sumNext W v0 v1 o0 o1).mono fun e W' ⟨he, bel⟩ => ?_
  subst he
  exact ⟨_, rfl, _, _, _, [], _, [], hW', trodAll_mk1 (shut_bool Try.underlying4 _), (trodAll_cons_mk (Below.trod sumNext_laidOut (by kernel_rfl) (of_decide_eq_true (by kernel_rfl)) h0 bel lt0) (trodAll_cons_mk (Below.trod sumNext_laidOut (by kernel_rfl) (of_decide_eq_true (by kernel_rfl)) h1 bel lt1) trodAll_mk0)), rfl, bel.frame _, fun h => by cases h⟩
theorem sumNext_holds : Rows.SumNextSaid :=
  OpenClaim.holds_of_wide 6 Try.f6 rfl rfl rfl rfl rfl rfl rfl ⟨rfl, rfl, rfl, rfl, rfl⟩ rfl rfl rfl rfl rfl (by kernel_rfl) Try.func6 (by kernel_rfl)
    (of_decide_eq_true (by kernel_rfl)) (by unfold Func.isWrapper; first | (rw [if_pos (by decide +kernel)]; kernel_rfl) | (rw [if_neg (by decide +kernel)]; exact ⟨rfl, rfl⟩))
    (fun os started H enc _ => sumNext_lifted os started H enc)
#print axioms sumNext_holds
end Go.Proofs.Ytidlpnbmenfimaa

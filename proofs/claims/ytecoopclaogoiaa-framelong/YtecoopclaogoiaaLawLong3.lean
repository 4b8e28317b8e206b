/- FrameLong: a body may have so many bytes, no more. No condition. -/
import Derived.Test.YtecoopclaogoiaaRows
import Derived.Test.YtecoopclaogoiaaKnown3
import Derived.Test.YtecoopclaogoiaaFrame
namespace Go.Proofs.Ytecoopclaogoiaa
open Go.ChangeShapes Go.WideShapes Go.ChangeAt Go.RowKit
set_option linter.unusedVariables false

theorem made_zeros (n : Nat) : (madeCells (Value.int .u8 0).cells (n * 1)).toList = (List.replicate n (0 : Int)).map (Value.int .u8) := by
  have e : (Value.int .u8 0).cells = #[Value.int .u8 0] := rfl
  rw [e]
  simp [madeCells, Nat.mod_one, List.map_const']
set_option maxRecDepth 100000 in
set_option maxHeartbeats 1000000 in
theorem walk_frameLong (w : World) (x y : Value) (hx : ∃ n, x = .int .i64 n ∧ (Lit.int .i64 n).wf = true) (hy : ∃ n, y = .int .u8 n ∧ (Lit.int .u8 n).wf = true) :
    Calls Try.prog 6 #[x, y] w fun e w' => e = .returned (.bool true) ∧ Below w.heap.size w w' := by
  obtain ⟨n, rfl, wn⟩ := hx
  obtain ⟨hn0, hn1⟩ := bounds_i64 wn
  obtain ⟨k, rfl, wk⟩ := hy
  obtain ⟨hk0, hk1⟩ := bounds_u8 wk
  clear wk wn
  obtain ⟨i0, hi, hz0, hz1, hz2⟩ := info_parts infoByte
  by_cases h1 : n < 0
  · clear hi
    go_enter Try.func6, Try.ntmps6
    go_wp2_with fail
    go_ret
    exact ⟨rfl, Below.refl _ _⟩
  by_cases h2 : 4100 < n
  · clear hi
    go_enter Try.func6, Try.ntmps6
    go_wp2_with fail
    go_ret
    exact ⟨rfl, Below.refl _ _⟩
  obtain ⟨n, rfl⟩ := Int.eq_ofNat_of_zero_le (by omega : 0 ≤ n)
  obtain ⟨Z, hZ⟩ : ∃ Z, Z = List.replicate n (0 : Int) := ⟨_, rfl⟩
  have hZl : Z.length = n := by rw [hZ]; simp
  have hZb : ∀ x ∈ Z, 0 ≤ x ∧ x ≤ 255 := by rw [hZ]; intro x hx; have := List.eq_of_mem_replicate hx; omega
  have HZ : Hid ((madeCells (Value.int .u8 0).cells (n * 1)).toList = Z.map (Value.int .u8)) := by rw [hZ]; exact made_zeros n
  clear hZ
  have HG : Hid (Z.length ≤ 4000 → Em3.fget (Em3.frm k Z) = some (k, Z, (Em3.frm k Z).length)) := by
    intro h; have := Em3.fget_frm k Z [] h; simpa using this
  go_enter Try.func6, Try.ntmps6
  go_wp2_with (at_make; refine wpList_make_full _ rfl _ _ 22 rfl w.heap.size 5 i0 (.int .u8 0) 1 Try.underlying22 hi hz0 hz1 .i64 .i64 n n n rfl rfl rfl rfl (by rw [hz2]; omega) (by unfold maxLen; omega) (Nat.le_refl _) ?_; intro w1 hown1 hgrow1; rw [HZ.out] at hown1)
  have bel1 : Below w.heap.size w w1 := (Below.refl _ _).grown hgrow1 (Nat.le_refl _) (by intro k h; cases h)
  have n1 : Em.IsBytes w1 (.slice (some ⟨w.heap.size, 0, none⟩) n n) Z := Em.IsBytes.own hZb (by rw [hZl]; exact hown1)
  clear hown1 hgrow1 hi
  by_cases h4 : 4000 < n
  · have hd : decide ((n : Int) ≤ 4000) = false := by simp; omega
    refine (fput_great k _ Z _ n1 (by omega)).mono ?_
    rintro e w2 ⟨rfl, rfl⟩
    clear n1
    go_wp2_with fail
    refine (fget_any _ [] _ (Em.IsBytes.nil _)).mono ?_
    rintro e w3 ⟨hgot, hb3⟩
    have bel3 : Below w.heap.size w w3 := bel1.trans (hb3.mono bel1.size)
    have hgot : e = .returned (.tuple #[.int .u8 0, .slice none 0 0, .int .i64 0, .bool false]) := hgot
    subst hgot
    clear hb3 bel1
    go_wp2_with fail
    refine (known3_any _).mono ?_
    rintro e w5 ⟨rfl, hb5⟩
    have bel5 : Below w.heap.size w w5 := bel3.trans (hb5.mono bel3.size)
    go_wp2_with fail
    go_ret
    exact ⟨rfl, bel5⟩
  · have hd : decide ((n : Int) ≤ 4000) = true := by simp; omega
    refine (fput_any k _ Z _ hk0 hk1 n1 (by omega)).mono ?_
    rintro e w2 ⟨u2, rfl, hown2, hb2⟩
    have bel2 : Below w.heap.size w w2 := bel1.trans (hb2.mono bel1.size)
    have n2 := Em.IsBytes.own (Em3.frm_bytes hk0 hk1 hZb (by omega)) hown2
    have hg := HG.out (by omega)
    obtain ⟨F, hF⟩ : ∃ F, F = Em3.frm k Z := ⟨_, rfl⟩
    rw [← hF] at n2 hg
    have HGG : Hid (Em3.fget F = some (k, Z, F.length)) := hg
    clear hown2 hb2 bel1 n1 hF hg HG
    go_wp2_with fail
    refine (fget_any _ F _ n2).mono ?_
    rintro e w3 ⟨hgot, hb3⟩
    rw [HGG.out] at hgot
    have bel3 : Below w.heap.size w w3 := bel2.trans (hb3.mono bel2.size)
    simp only [FGot] at hgot
    obtain ⟨v3, rfl, n3⟩ := hgot
    obtain ⟨a3, c3, rfl, -⟩ := n3
    clear hb3 bel2 n2
    go_wp2_with fail
    refine (known3_any _).mono ?_
    rintro e w5 ⟨rfl, hb5⟩
    have bel5 : Below w.heap.size w w5 := bel3.trans (hb5.mono bel3.size)
    go_wp2_with fail
    go_ret
    exact ⟨rfl, bel5⟩

theorem frameLong_own : ownKnob Try.prog.godebug = none := by kernel_rfl
theorem frameLong_laidOut : laidOutB Try.prog = true := by kernel_rfl
set_option maxRecDepth 100000 in
theorem frameLong_lifted (os : Os) (started : os.Started) (H : Type) (enc : TypeId × Value → H) :
    ReturnsInHanded {} Try.checked os 6 .any (Rows.frameLongSpec.pre6 enc Try.prog Try.f6 Rows.frameLongRow.domain false) (Rows.frameLongSpec.post enc Try.prog Try.f6 false true false false) := by
  refine returnsInHanded_of_change (C := Try.checked) frameLong_own started (by kernel_rfl) Try.func6
    (ChangeSpec.witness6 (enc := enc) (C := Try.checked) false ⟨#[], #[.int .i64 0, .int .u8 0], []⟩ 8 (by kernel_rfl) (by kernel_rfl) (by kernel_rfl) (by kernel_rfl)) ?_
  intro W base args ds gs before hval0 hW hcnd _
  have hval : ∀ (j : Nat) t v, Try.f6.params[j]? = some t → args[j]? = some v → Value.okWide Try.prog W .any base t v := hval0
  have hW' := hW
  obtain ⟨p, q, hA0, hV, rfl, hfz, hnd⟩ := hW
  have hA : DataW.TrodAll enc Try.prog W 0 (fun _ => true) true Try.f6.params.toList args.toList ds p := hA0
  rw [Try.params6] at hA hval
  obtain ⟨v0, vs0, d0, ds0, p0, q0, hargs, rfl, rfl, h0, r0⟩ := trodAll_cons hA
  obtain ⟨v1, vs1, d1, ds1, p1, q1, rfl, rfl, rfl, h1, r1⟩ := trodAll_cons r0
  obtain ⟨rfl, rfl, rfl⟩ := trodAll_nil r1
  obtain rfl : args = #[v0, v1] := by cases args; simp_all
  obtain ⟨rfl, rfl⟩ := trodVars_none hV
  have lt0 : ∀ x ∈ p0, x.block < W.heap.size := by obtain ⟨m, hm⟩ := h0; exact DataW.trod_lt m _ _ _ hm
  have o0 := Em.open_int Try.underlying3 (hval 0 3 v0 rfl rfl) h0
  have lt1 : ∀ x ∈ p1, x.block < W.heap.size := by obtain ⟨m, hm⟩ := h1; exact DataW.trod_lt m _ _ _ hm
  have o1 := Em.open_int Try.underlying5 (hval 1 5 v1 rfl rfl) h1
  clear hA0 hval0
  refine (walk_frameLong W v0 v1 o0 o1).mono fun e W' ⟨he, bel⟩ => ?_
  subst he
  exact ⟨_, rfl, _, _, _, [], _, [], hW', trodAll_mk1 (shut_bool Try.underlying4 _), (trodAll_cons_mk (Below.trod frameLong_laidOut (by kernel_rfl) (of_decide_eq_true (by kernel_rfl)) h0 bel lt0) (trodAll_cons_mk (Below.trod frameLong_laidOut (by kernel_rfl) (of_decide_eq_true (by kernel_rfl)) h1 bel lt1) trodAll_mk0)), rfl, bel.frame _, fun h => by cases h⟩
theorem frameLong_holds : Rows.FrameLongSaid :=
  OpenClaim.holds_of_wide 6 Try.f6 rfl rfl rfl rfl rfl rfl rfl ⟨rfl, rfl, rfl, rfl, rfl⟩ rfl rfl rfl rfl rfl (by kernel_rfl) Try.func6 (by kernel_rfl)
    (of_decide_eq_true (by kernel_rfl)) (by unfold Func.isWrapper; first | (rw [if_pos (by decide +kernel)]; kernel_rfl) | (rw [if_neg (by decide +kernel)]; exact ⟨rfl, rfl⟩))
    (fun os started H enc _ => frameLong_lifted os started H enc)
#print axioms frameLong_holds
end Go.Proofs.Ytecoopclaogoiaa

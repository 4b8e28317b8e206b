/- What 'leavesPast' of an attempt answers (package unify). -/
import Derived.Test.YtadhjnbhcenocaaUfD
namespace Go.Proofs.Ytadhjnbhcenocaa
open Go.RowKit Go.Em8 Go.Em9
set_option linter.unusedSimpArgs false
set_option linter.unusedVariables false

set_option maxRecDepth 100000 in
set_option maxHeartbeats 2000000 in
theorem ulpf_any {w : World} {K : Nat → Prop} {F : Fo} {is : Nat → Option Nat} {cm sn : Nat → Int} (hT : Tms w K F is cm sn) {ab bb : Nat} {N : Int} (h1 : w.cell? ⟨ab, 1, none⟩ = some (.int .i64 N)) (hb : w.cell? ⟨bb, 0, none⟩ = some (.pointer (some ⟨ab, 0, none⟩))) {x : Nat} (hx : x ∈ F.L) :
    Calls Try.prog 43 #[.pointer (some ⟨x, 0, none⟩), .pointer (some ⟨bb, 0, none⟩)] w fun e w' => e = .returned (.bool (decide (cm x < N))) ∧ ∃ m, w' = w.drewN m := by
  obtain ⟨xa, xc, xs, -, -, -, -, -, x5, -, -, -⟩ := (hT x hx).2.cells
  obtain ⟨q, hq⟩ : ∃ q, q = decide (cm x < N) := ⟨_, rfl⟩
  have hd : decide (cm x < N) = q := hq.symm
  rw [hd]
  generalize cm x = c at *
  clear hT hx hq
  go_enter Try.func43, Try.ntmps43
  go_wp2_with fail
  go_quiet (fail)
  go_wp2
  go_ret
  exact ⟨rfl, _, rfl⟩

set_option maxRecDepth 100000 in
set_option maxHeartbeats 2000000 in
theorem uidx_any {w : World} {K : Nat → Prop} {F : Fo} {is : Nat → Option Nat} {cm sn : Nat → Int} (hT : Tms w K F is cm sn) {ab bb : Nat} {N : Int} (h1 : w.cell? ⟨ab, 1, none⟩ = some (.int .i64 N)) (hb : w.cell? ⟨bb, 0, none⟩ = some (.pointer (some ⟨ab, 0, none⟩))) {B : Nat} {jv : Value} {J : List Nat} (hJ : OwnPtrs w B jv J) (hJL : ∀ j ∈ J, j ∈ F.L) (hJn : J.length ≤ 1000000) :
    Calls Try.prog 45 #[jv, (.func (.func 43) #[] #[.pointer (some ⟨bb, 0, none⟩)])] w fun e w' => ∃ i : Int, e = .returned (.int .i64 i) ∧ -1 ≤ i ∧ (0 ≤ i ↔ ∃ j ∈ J, cm j < N) ∧ ∃ m, w' = w.drewN m := by
  have HT : Hid (Tms w K F is cm sn ∧ (∀ j ∈ J, j ∈ F.L)) := ⟨hT, hJL⟩
  have HC : Hid (w.cell? ⟨ab, 1, none⟩ = some (.int .i64 N) ∧ w.cell? ⟨bb, 0, none⟩ = some (.pointer (some ⟨ab, 0, none⟩))) := ⟨h1, hb⟩
  obtain ⟨ja, jc, rfl⟩ := hJ.form
  have HJ : Hid (OwnPtrs w B (.slice ja J.length jc) J) := hJ
  clear hT h1 hb hJ hJL
  go_enter Try.func45, Try.ntmps45
  go_wp2_with fail
  go_loopw [8] (fun i wr => ∃ (j m : Nat), j ≤ J.length ∧ i = .int .i64 j ∧ wr = w.drewN m ∧ Hid (∀ (k x : Nat), k < j → J[k]? = some x → N ≤ cm x)) (fun i _ => J.length - (intOf i).toNat)
  case atStart => exact ⟨0, 0, Nat.zero_le _, rfl, rfl, fun k x hk _ => by omega⟩
  case round =>
    obtain ⟨j, m, hj, rfl, rfl, HR⟩ := hrel
    by_cases hlt : j < J.length
    · obtain ⟨x, hx⟩ : ∃ x, J[j]? = some x := ⟨_, List.getElem?_eq_getElem hlt⟩
      obtain ⟨-, -, -, hget⟩ := HJ.out.is
      obtain ⟨g, rfl, -, -, hc⟩ := hget (by omega)
      have c0 := hc j x hx
      have HX : Hid (J[j]? = some x) := hx
      have HF : Hid (Calls Try.prog 43 #[.pointer (some ⟨x, 0, none⟩), .pointer (some ⟨bb, 0, none⟩)] (w.drewN m) fun e w' => e = .returned (.bool (decide (cm x < N))) ∧ ∃ k, w' = (w.drewN m).drewN k) :=
        ulpf_any (HT.out.1.dr m) HC.out.1 HC.out.2 (HT.out.2 x (List.mem_of_getElem? hx))
      have hj0 : (0 : Int) ≤ (j : Int) := by omega
      have hjl : (j : Int) < (J.length : Int) := by omega
      obtain ⟨q, hq⟩ : ∃ q, q = decide (cm x < N) := ⟨_, rfl⟩
      rw [← hq] at HF
      have HQ : Hid (q = decide (cm x < N)) := hq
      clear hx hget hc hq
      cases q with
      | true =>
        have hlt2 : cm x < N := of_decide_eq_true HQ.out.symm
        have HL : Hid (cm x < N) := hlt2
        clear hlt2
        go_wp2_with (go_at_call 43; refine (HF.out).mono ?_; rintro e w2 ⟨rfl, k, hk⟩; rw [hk, World.drewN_drewN]; clear hk)
        go_ret
        exact ⟨(j : Int), rfl, by omega, ⟨fun _ => ⟨x, List.mem_of_getElem? HX.out, HL.out⟩, fun _ => by omega⟩, _, rfl⟩
      | false =>
        have HL : Hid (N ≤ cm x) := Int.not_lt.1 (of_decide_eq_false HQ.out.symm)
        go_wp2_with (go_at_call 43; refine (HF.out).mono ?_; rintro e w2 ⟨rfl, k, hk⟩; rw [hk, World.drewN_drewN]; clear hk)
        go_roundw
        case rel =>
          refine ⟨j + 1, m + k, by omega, by go_num, rfl, fun i y hi hy => ?_⟩
          by_cases e : i = j
          · subst e
            rw [HX.out] at hy; cases hy
            exact HL.out
          · exact HR.out i y (by omega) hy
        case measure => simp [intOf]; omega
    · have hje : j = J.length := by omega
      go_wp2_with fail
      go_ret
      refine ⟨-1, rfl, by omega, ⟨fun h => by omega, fun ⟨x, hx, hlt2⟩ => ?_⟩, _, rfl⟩
      obtain ⟨k, hk, e⟩ := List.getElem_of_mem hx
      have := HR.out k x (by omega) (by rw [List.getElem?_eq_getElem hk, e])
      omega

/-- Was nothing joined that came with earlier attempts? -/
def pastB (cm : Nat → Int) (N : Int) (J : List Nat) : Bool := J.all fun j => decide (¬ cm j < N)
theorem pastB_true {cm : Nat → Int} {N : Int} {J : List Nat} : pastB cm N J = true ↔ ∀ j ∈ J, ¬ cm j < N := by simp [pastB]
set_option maxRecDepth 100000 in
set_option maxHeartbeats 2000000 in
theorem ucon_any {w : World} {K : Nat → Prop} {F : Fo} {is : Nat → Option Nat} {cm sn : Nat → Int} (hT : Tms w K F is cm sn) {ab bb : Nat} {N : Int} (h1 : w.cell? ⟨ab, 1, none⟩ = some (.int .i64 N)) (hb : w.cell? ⟨bb, 0, none⟩ = some (.pointer (some ⟨ab, 0, none⟩))) {B : Nat} {jv : Value} {J : List Nat} (hJ : OwnPtrs w B jv J) (hJL : ∀ j ∈ J, j ∈ F.L) (hJn : J.length ≤ 1000000) :
    Calls Try.prog 42 #[jv, (.func (.func 43) #[] #[.pointer (some ⟨bb, 0, none⟩)])] w fun e w' => e = .returned (.bool (!pastB cm N J)) ∧ ∃ m, w' = w.drewN m := by
  have HI := uidx_any hT h1 hb hJ hJL hJn
  clear hT h1 hb hJ hJL
  go_enter Try.func42, Try.ntmps42
  go_wp2_with (go_at_call 45; refine HI.mono ?_; rintro e w2 ⟨i, rfl, hi1, hi2, m, hm⟩; rw [hm]; clear hm; have HI2 : Hid (0 ≤ i ↔ ∃ j ∈ J, cm j < N) := hi2; clear hi2; obtain ⟨q, hq⟩ : ∃ q, q = decide (0 ≤ i) := ⟨_, rfl⟩; have hd : decide (0 ≤ i) = q := hq.symm; have HQ : Hid (q = decide (0 ≤ i)) := hq; clear hq)
  go_ret
  refine ⟨?_, _, rfl⟩
  have e : q = !pastB cm N J := by
    rw [HQ.out]
    cases hp : pastB cm N J with
    | true =>
      refine decide_eq_false fun h => ?_
      obtain ⟨j, hj, hl⟩ := HI2.out.1 h
      exact pastB_true.1 hp j hj hl
    | false =>
      refine decide_eq_true (HI2.out.2 (Classical.byContradiction fun h => ?_))
      have : pastB cm N J = true := pastB_true.2 fun j hj hl => h ⟨j, hj, hl⟩
      rw [hp] at this; cases this
  rw [← e]
  rfl

set_option maxRecDepth 100000 in
set_option maxHeartbeats 2000000 in
/-- 'a.leavesPast()'. -/
theorem ulp_any {w : World} {K : Nat → Prop} {F : Fo} {is : Nat → Option Nat} {cm sn : Nat → Int} (hT : Tms w K F is cm sn) {B sb ab : Nat} {N : Int} {vv jv : Value} {Vl : List Int} {J : List Nat} (hA : Att w B sb ab N vv jv Vl J) (hJL : ∀ j ∈ J, j ∈ F.L) (hJn : J.length ≤ 1000000) :
    Calls Try.prog 40 #[.pointer (some ⟨ab, 0, none⟩)] w fun e w' => e = .returned (.bool (pastB cm N J)) ∧ Below w.heap.size w w' := by
  obtain ⟨W, hW⟩ : ∃ W, W = w.alloc (.cells #[.pointer (some ⟨ab, 0, none⟩)] 63) := ⟨_, rfl⟩
  have hbW : Below w.heap.size w W := by rw [hW]; exact (Below.refl _ _).alloc (Nat.le_refl _) _
  have b0 : W.cell? ⟨w.heap.size, 0, none⟩ = some (.pointer (some ⟨ab, 0, none⟩)) := by rw [hW]; simp
  obtain ⟨-, a1, -, a3, -⟩ := (hA.below hbW).get
  have HI := ucon_any (hT.below hbW) a1 b0 (hA.below hbW).jnd hJL hJn
  have HWE : Hid (w.alloc (.cells #[.pointer (some ⟨ab, 0, none⟩)] 63) = W) := hW.symm
  have HB : Hid (Below w.heap.size w W) := hbW
  obtain ⟨ja, jc, rfl⟩ := hA.jnd.form
  clear hT hA hJL hW hbW a1
  go_enter Try.func40, Try.ntmps40
  go_upto_region 1 with fail
  rw [HWE.out]
  go_wp2_with (go_at_call 42; refine HI.mono ?_; rintro e w2 ⟨rfl, m, hm⟩; rw [hm]; clear hm)
  go_ret
  exact ⟨by simp, below_drewN HB.out m⟩
end Go.Proofs.Ytadhjnbhcenocaa

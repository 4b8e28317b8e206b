/- What frame.Get answers, for any bytes. -/
import Derived.Test.YtecoopclaogoiaaGet
import Derived.Test.YtecoopclaogoiaaRFGet
import Derived.Test.YtecoopclaogoiaaFPut
import Derived.Deep.RegionHeld
import Derived.BigQuiet
namespace Go.Proofs.Ytecoopclaogoiaa
open Go.RowKit

theorem below_drewNf {B : Nat} {w w' : World} (h : Below B w w') (n : Nat) : Below B w (w'.drewN n) := by
  exact ⟨h.os, h.tape, h.output, h.size, h.block⟩

set_option maxHeartbeats 400000 in
theorem fget_empty (a : Option Addr) (cap : Nat) (w : World) :
    Calls Try.prog 10 #[.slice a 0 cap] w fun e w' => FGot w' e none ∧ Below w.heap.size w w' := by
  go_enter Try.func10, Try.ntmps10
  go_wp2
  (try simp only [Exit.inBlock, Exit.then]); refine bodyPost_ret (results_tmp4 rfl _ _ _) rfl ?_
  exact ⟨rfl, Below.refl _ _⟩

set_option maxRecDepth 100000 in
set_option maxHeartbeats 2000000 in
theorem fget_some (b off cap : Nat) (k : Int) (r : List Int) (w : World) (hu : Em.IsBytes w (.slice (some ⟨b, off, none⟩) (r.length + 1) cap) (k :: r)) :
    Calls Try.prog 10 #[.slice (some ⟨b, off, none⟩) (r.length + 1) cap] w fun e w' => FGot w' e (Em3.fget (k :: r)) ∧ Below w.heap.size w w' := by
  have hbd := hu.bd
  have hk := hbd k (by simp)
  have hr : ∀ x ∈ r, 0 ≤ x ∧ x ≤ 255 := fun x hx => hbd x (by simp [hx])
  have hlen := hu.len
  simp only [List.length_cons] at hlen
  have hcap : r.length + 1 ≤ cap := by
    obtain ⟨a, c, e, h1, -⟩ := hu
    injection e with e1 e2 e3
    subst e3
    simpa using h1
  have hcap2 : cap ≤ 9223372036854775807 := by
    obtain ⟨a, c, e, -, h1, -⟩ := hu
    injection e with e1 e2 e3
    subst e3
    exact h1
  have hcell : w.cell? ⟨b, off, none⟩ = some (.int .u8 k) := by
    obtain ⟨b', off', c', e, -, -, hc⟩ := hu.plain (by simp)
    injection e with e1 e2 e3
    simp only [Option.some.injEq, Addr.mk.injEq, and_true] at e1
    obtain ⟨rfl, rfl⟩ := e1
    simpa using hc 0 (by simp)
  by_cases hc1 : cap = 1
  · have hr0 : r = [] := List.length_eq_zero_iff.1 (by omega)
    subst hr0
    subst hc1
    have hf : Em3.fget [k] = none := rfl
    rw [hf]
    have HE : Hid (Em.IsBytes w (.slice (some ⟨b, off, none⟩) 0 0) []) := ⟨_, _, rfl, by simp, by simp, (fun h => by cases h), by simp, by simp⟩
    clear hf hu hr hbd
    go_enter Try.func10, Try.ntmps10
    go_wp2_with fail
    refine (get_any _ _ _ HE.out).mono ?_
    rintro e w1 ⟨rfl, rfl⟩
    simp only [show Em1.get [] = none from rfl, getRes]
    go_wp2_with fail
    (try simp only [Exit.inBlock, Exit.then]); refine bodyPost_ret (results_tmp4 rfl _ _ _) rfl ?_
    exact ⟨rfl, Below.refl _ _⟩
  have HT : Em.IsBytes w (.slice (some ⟨b, off + 1, none⟩) r.length (cap - 1)) r := by
    have ht := hu.sliced 1 (r.length + 1) (by omega) (by omega)
    simpa [sliced, hc1, Addr.add] using ht
  have HI : Hid (Em.IsBytes w (.slice (some ⟨b, off + 1, none⟩) r.length (cap - 1)) r) := HT
  have HU : Hid (Em.IsBytes w (.slice (some ⟨b, off, none⟩) (r.length + 1) cap) (k :: r)) := hu
  cases hg : Em1.get r with
  | none =>
    have hf : Em3.fget (k :: r) = none := by simp [Em3.fget, hg]
    rw [hf]
    have HG : Hid (Em1.get r = none) := hg
    clear hf hu hr hbd HT hg
    go_enter Try.func10, Try.ntmps10
    go_wp2_with fail
    refine (get_any _ _ _ HI.out).mono ?_
    rintro e w1 ⟨rfl, rfl⟩
    simp only [HG.out, getRes]
    go_wp2_with fail
    (try simp only [Exit.inBlock, Exit.then]); refine bodyPost_ret (results_tmp4 rfl _ _ _) rfl ?_
    exact ⟨rfl, Below.refl _ _⟩
  | some p =>
    obtain ⟨v, n⟩ := p
    obtain ⟨g1, g2, g3, g4⟩ := Em3.get_sound hr hg
    have gl := Em3.get_len hr hg
    have hpl := Em1.put_len v
    rw [← gl] at hpl
    have HG : Hid (Em1.get r = some (v, n)) := hg
    by_cases hv : 4000 < v
    · have hf : Em3.fget (k :: r) = none := by simp [Em3.fget, hg, hv]
      rw [hf]
      clear hf hu hr hbd HT hg g3 gl
      go_enter Try.func10, Try.ntmps10
      go_wp2_with fail
      refine (get_any _ _ _ HI.out).mono ?_
      rintro e w1 ⟨rfl, rfl⟩
      simp only [HG.out, getRes]
      go_wp2_with fail
      (try simp only [Exit.inBlock, Exit.then]); refine bodyPost_ret (results_tmp4 rfl _ _ _) rfl ?_
      exact ⟨rfl, Below.refl _ _⟩
    by_cases hs : r.length + 1 < n + v + 5
    · have hf : Em3.fget (k :: r) = none := by simp [Em3.fget, hg, hs]
      rw [hf]
      clear hf hu hr hbd HT hg g3 gl
      have hd : decide ((r.length : Int) + 1 < 1 + (n : Int) + (v : Int) + 4) = true := by simp; omega
      go_enter Try.func10, Try.ntmps10
      go_wp2_with fail
      refine (get_any _ _ _ HI.out).mono ?_
      rintro e w1 ⟨rfl, rfl⟩
      simp only [HG.out, getRes]
      go_wp2_with fail
      go_quiet (fail)
      go_wp2_with fail
      (try simp only [Exit.inBlock, Exit.then]); refine bodyPost_ret (results_tmp4 rfl _ _ _) rfl ?_
      exact ⟨rfl, below_drewNf (Below.refl _ _) _⟩
    have HF : Hid (Em3.fget (k :: r) = _) := Em3.fget_cut hr hg (by omega) (by omega)
    obtain ⟨B, hB⟩ : ∃ B, B = ((k :: r).drop (1 + n)).take v := ⟨_, rfl⟩
    obtain ⟨S, hS⟩ : ∃ S, S = ((k :: r).drop (1 + n + v)).take 4 := ⟨_, rfl⟩
    obtain ⟨H, hH⟩ : ∃ H, H = (k :: r).take (1 + n + v) := ⟨_, rfl⟩
    have hBl : B.length = v := by rw [hB]; simp; omega
    have hSl : S.length = 4 := by rw [hS]; simp; omega
    have hHl : H.length = 1 + n + v := by rw [hH]; simp; omega
    rw [← hB, ← hS, ← hH] at HF
    have hne : ¬ cap = 1 + n := by omega
    have hne2 : ¬ cap = 1 + n + v := by omega
    have hne0 : ¬ cap = 0 := by omega
    have HB : Hid (∀ w', Below w.heap.size w w' → Em.IsBytes w' (.slice (some ⟨b, off + (1 + n), none⟩) v (cap - (1 + n))) B) := by
      intro w' hw
      have ht := hu.sliced (1 + n) (1 + n + v) (by omega) (by omega)
      have e2 : 1 + n + v - (1 + n) = v := by omega
      have e3 : ¬ 1 + n = 0 := by omega
      rw [e2, ← hB] at ht
      exact Em.IsBytes.below (by simpa [sliced, hne, Addr.add, e2, e3] using ht) hw
    have HS : Hid (∀ w', Below w.heap.size w w' → Em.IsBytes w' (.slice (some ⟨b, off + (1 + n + v), none⟩) 4 (cap - (1 + n + v))) S) := by
      intro w' hw
      have ht := hu.sliced (1 + n + v) (1 + n + v + 4) (by omega) (by simp; omega)
      have e2 : 1 + n + v + 4 - (1 + n + v) = 4 := by omega
      have e3 : ¬ 1 + n + v = 0 := by omega
      rw [e2, ← hS] at ht
      exact Em.IsBytes.below (by simpa [sliced, hne2, Addr.add, e2, e3] using ht) hw
    have HH : Hid (∀ w', Below w.heap.size w w' → Em.IsBytes w' (.slice (some ⟨b, off, none⟩) (1 + n + v) cap) H) := by
      intro w' hw
      have ht := hu.take (1 + n + v) (by omega)
      rw [← hH] at ht
      exact ht.below hw
    have hd : decide ((r.length : Int) + 1 < 1 + (n : Int) + (v : Int) + 4) = false := by simp; omega
    have e9 : 1 + n + v - (1 + n) = v := by omega
    have e8 : 1 + n + v + 4 - (1 + n + v) = 4 := by omega
    have HCL : Hid (∀ w', Below w.heap.size w w' → w'.cell? ⟨b, off, none⟩ = some (.int .u8 k)) := fun w' hw => by rw [hw.cell (Em.cell_lt hcell)]; exact hcell
    obtain ⟨T, hT⟩ : ∃ T, T = Em3.be4 (Em2.adler H) := ⟨_, rfl⟩
    have HTb : Hid (∀ x ∈ T, 0 ≤ x ∧ x ≤ 255) := by rw [hT]; exact Em3.be4_bytes _
    have HTe : Hid (T = Em3.be4 (Em2.adler H)) := hT
    rw [← hT] at HF
    clear hu hr hbd HT hg g3 hB gl hS hH hcell hT
    go_enter Try.func10, Try.ntmps10
    go_wp2_with fail
    refine (get_any _ _ _ HI.out).mono ?_
    rintro e w1 ⟨rfl, rfl⟩
    simp only [HG.out, getRes]
    by_cases hq : S = T
    · have HV : Hid (Em3.fget (k :: r) = some (k, B, 1 + n + v + 4)) := by rw [Hid, HF.out, if_pos hq]
      have hq' : decide (S = T) = true := by simp [hq]
      clear hq
      have bel0 : Below w1.heap.size w1 w1.drew := (Below.refl _ _).drew
      go_wp2_with fail
      go_region_held (fun w' => Below w1.heap.size w1 w')
        (first | exact bel2 | exact bel0)
        (first | (go_at_call 18; refine (equal_any _ _ S T _ (HS.out _ bel2) n2).mono ?_; rintro e w3 ⟨rfl, rfl⟩; rw [hq']) | (go_at_call 14; refine (tail_any _ H _ (HH.out _ bel0)).mono ?_; rintro e w2 ⟨u2, rfl, hown2, hbel2⟩; rw [← HTe.out] at hown2; have bel2 : Below w1.heap.size w1 w2 := bel0.trans (hbel2.mono bel0.size); have n2 := Em.IsBytes.own HTb.out hown2; clear hown2 hbel2))
      all_goals
        have hcl := HCL.out _ bel2
        go_wp2_with fail
        have bel3 : Below w1.heap.size w1 _ := bel2.drew
        have hcl3 := HCL.out _ bel3
        go_region_held (fun w' => Below w1.heap.size w1 w' ∧ w'.cell? ⟨b, off, none⟩ = some (.int .u8 k))
          (first | exact ⟨bel4, HCL.out _ bel4⟩ | exact ⟨bel3, hcl3⟩)
          (first | (go_at_call 19; refine (clone_any _ B _ (HB.out _ bel3) (by omega)).mono ?_; rintro e w4 ⟨u4, rfl, hown4, hbel4⟩; have bel4 : Below w1.heap.size w1 w4 := bel3.trans (hbel4.mono bel3.size); have n4 := Em.IsBytes.own (HB.out _ bel3).bd hown4; clear hown4 hbel4))
        all_goals
          go_wp2
          (try simp only [Exit.inBlock, Exit.then]); refine bodyPost_ret (results_tmp4 rfl _ _ _) rfl ?_
          refine ⟨?_, bel4⟩
          rw [HV.out]
          refine ⟨_, rfl, n4⟩
    · have HV : Hid (Em3.fget (k :: r) = none) := by rw [Hid, HF.out, if_neg hq]
      have hq' : decide (S = T) = false := by simp [hq]
      clear hq
      have bel0 : Below w1.heap.size w1 w1.drew := (Below.refl _ _).drew
      go_wp2_with fail
      go_region_held (fun w' => Below w1.heap.size w1 w')
        (first | exact bel2 | exact bel0)
        (first | (go_at_call 18; refine (equal_any _ _ S T _ (HS.out _ bel2) n2).mono ?_; rintro e w3 ⟨rfl, rfl⟩; rw [hq']) | (go_at_call 14; refine (tail_any _ H _ (HH.out _ bel0)).mono ?_; rintro e w2 ⟨u2, rfl, hown2, hbel2⟩; rw [← HTe.out] at hown2; have bel2 : Below w1.heap.size w1 w2 := bel0.trans (hbel2.mono bel0.size); have n2 := Em.IsBytes.own HTb.out hown2; clear hown2 hbel2))
      all_goals
        go_wp2_with fail
        (try simp only [Exit.inBlock, Exit.then]); refine bodyPost_ret (results_tmp4 rfl _ _ _) rfl ?_
        rw [HV.out]
        exact ⟨rfl, bel2⟩
end Go.Proofs.Ytecoopclaogoiaa

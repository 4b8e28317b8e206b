/- What (*scope).shift does. -/
import Derived.Test.YtlniokcekjemdaaDoorTreeB
namespace Go.Proofs.YtlniokcekjemdaaDoor
open Go.RowKit
set_option linter.unusedSimpArgs false

theorem Scope.bes {w : World} {sb mb mf : Nat} {C : List Int → Int} {F : List (List Int)} {n : Nat} (h : Scope w sb mb mf C F n) : (∀ o, w.cell? ⟨mb, o, none⟩ = none) ∧ (∀ o, w.cell? ⟨mf, o, none⟩ = none) := by
  obtain ⟨D, h1, -⟩ := h.bound
  obtain ⟨D', h2, -⟩ := h.free
  exact ⟨map_cell h1, map_cell h2⟩
theorem cnt_add (C : List Int → Int) (d : Int) (names : List (List Int)) (j : Nat) (x : List Int) (hj : names[j]? = some x) (y : List Int) :
    (if y = x then C x + d * ((names.take j).count x : Int) + d else C y + d * ((names.take j).count y : Int)) = C y + d * ((names.take (j + 1)).count y : Int) := by
  have hl := (List.getElem?_eq_some_iff.1 hj).1
  have e : names[j] = x := (List.getElem?_eq_some_iff.1 hj).2
  rw [List.take_succ_eq_append_getElem hl, e, List.count_append]
  by_cases h : y = x
  · subst h
    simp only [if_true, List.count_singleton_self, Int.natCast_add, Int.natCast_one]
    rw [Int.mul_add]; omega
  · rw [if_neg h]
    have : List.count y [x] = 0 := by rw [List.count_eq_zero]; simpa using h
    rw [this]; simp

set_option maxRecDepth 100000 in
set_option maxHeartbeats 2000000 in
theorem tshift_any (d : Int) (hd : d = 1 ∨ d = -1) (names : List (List Int)) (nv : Value) (w : World) (sb mb mf : Nat) (C : List Int → Int) (F : List (List Int)) (n : Nat) (hs : Scope w sb mb mf C F n) (hv : IsStrs w nv names) (hl : names.length ≤ 2)
    (hC : ∀ x, -1000000000000 ≤ C x ∧ C x ≤ 1000000000000) (hn : n + 2 ≤ 1000000000000) :
    Calls Tryd.prog 32 #[.pointer (some ⟨sb, 0, none⟩), nv, .int .i64 d] w fun e w' => e = .returned (.tuple #[]) ∧ Scope w' sb mb mf (fun x => C x + d * (names.count x : Int)) F (n + names.length) ∧ Bes2 mb mf w w' := by
  have HV : Hid (∀ w', Bes2 mb mf w w' → IsStrs w' nv names) := fun w' h => strs_bes hv h hs.bes.1 hs.bes.2
  have HS : Hid (Scope w sb mb mf C F n) := hs
  have HT : Hid (∀ t ∈ names, Em5.Txt t) := hv.txt
  have HC : Hid (∀ x, -1000000000000 ≤ C x ∧ C x ≤ 1000000000000) := hC
  obtain ⟨a, cap, rfl, k1, k2, -⟩ := hv
  unfold maxLen at k2
  clear hs hC
  have hd1 : -1 ≤ d := by omega
  have hd2 : d ≤ 1 := by omega
  have HDD : Hid (d = 1 ∨ d = -1) := hd
  clear hd
  go_enter Tryd.func32, Tryd.ntmps32
  go_wp2
  go_loopw [10] (fun i wr => ∃ j : Nat, j ≤ names.length ∧ i = .int .i64 j ∧ Hid (Scope wr sb mb mf (fun x => C x + d * ((names.take j).count x : Int)) F (n + j) ∧ Bes2 mb mf w wr)) (fun i _ => names.length - (intOf i).toNat)
  case atStart => exact ⟨0, Nat.zero_le _, rfl, HS.out.congr (by intro x; simp), Bes2.refl _ _ _⟩
  case round =>
    obtain ⟨j, hj, rfl, HR⟩ := hrel
    by_cases hlt : j < names.length
    · obtain ⟨b, off, cap', e0, -, -, -, hcells⟩ := (HV.out wr HR.out.2).plain (by omega)
      injection e0 with e1 e2 e3
      subst e1
      obtain ⟨x, hx⟩ : ∃ x, names[j]? = some x := ⟨_, List.getElem?_eq_getElem hlt⟩
      have hcell := hcells j x hx
      have htx := HT.out x (List.mem_of_getElem? hx)
      have hc0 := HR.out.1.c0
      have hlook := HR.out.1.look htx
      obtain ⟨c, hc⟩ : ∃ c, c = C x + d * ((names.take j).count x : Int) := ⟨_, rfl⟩
      rw [← hc] at hlook
      have hcb : -1000000000003 ≤ c ∧ c ≤ 1000000000003 := by
        have h1 := HC.out x
        have h2 : (names.take j).count x ≤ 2 := Nat.le_trans (List.count_le_length) (by simp; omega)
        rcases HDD.out with e | e <;> (rw [e] at hc; omega)
      obtain ⟨w1, hrun, hsc, hgr⟩ := HR.out.1.setB htx (c := c + d) (by omega) (by omega)
      have HJ : Hid (Scope w1 sb mb mf (fun x => C x + d * ((names.take (j + 1)).count x : Int)) F (n + (j + 1)) ∧ Bes2 mb mf w w1) :=
        ⟨hsc.congr (fun y => by rw [hc]; exact cnt_add C d names j x hx y), HR.out.2.grown1 hgr⟩
      have hjI : (j : Int) < (names.length : Int) := by omega
      have b1 : -9223372036854775808 ≤ c + d := by omega
      have b2 : c + d ≤ 9223372036854775807 := by omega
      clear hx hcells e2 e3 hc hsc hgr htx HR
      go_wp2
      go_roundw
      case rel => exact ⟨j + 1, by omega, by go_num, HJ⟩
      case measure => simp [intOf]; omega
    · have HF : Hid (Scope wr sb mb mf (fun x => C x + d * (names.count x : Int)) F (n + names.length) ∧ Bes2 mb mf w wr) := by
        have h := HR.out
        rw [List.take_of_length_le (by omega), show j = names.length by omega] at h
        exact h
      go_wp2
      (try simp only [Exit.inBlock, Exit.then]); refine bodyPost_end (results_none rfl _ _ _) rfl ?_
      exact ⟨rfl, HF.out⟩
end Go.Proofs.YtlniokcekjemdaaDoor

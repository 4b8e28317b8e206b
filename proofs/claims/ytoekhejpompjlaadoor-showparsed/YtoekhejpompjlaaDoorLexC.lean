/- What lex.sign answers, where lex.signs holds what its initialiser lays. -/
import Derived.Test.YtoekhejpompjlaaDoorLexB
import Derived.Test.YtoekhejpompjlaaDoorRLexM1
namespace Go.Proofs.YtoekhejpompjlaaDoor
open Go.RowKit
set_option linter.unusedSimpArgs false

/-- The table of signs holds the signs. -/
def IsSigns (w : World) : Prop := ∀ k : Nat, k < 17 → w.cell? ⟨3, k, none⟩ = some (.string (Em.str (Em4.signs[k]?.getD [])))
theorem IsSigns.lt {w : World} (h : IsSigns w) : 3 < w.heap.size := by
  have := h 0 (by omega)
  exact Em.cell_lt this
theorem IsSigns.below {w w' : World} {B : Nat} (h : IsSigns w) (hb : Below B w w') (hB : 3 < B) : IsSigns w' := fun k hk => by
  rw [hb.cell (p := ⟨3, k, none⟩) hB]; exact h k hk

/-- 'a[k]' of an array of texts by value. -/
theorem run_index_arr (w : World) (X : Array Value) (k : Nat) (hk : k < 17) (v : Value) (hv : X[k]? = some v) : (Instr.index 101 (.agg X) (.int .i64 (k : Int))).run Tryd.prog w = .ok v w := by
  obtain ⟨i0, hi, -, -, -⟩ := info_parts infoStr
  have hc : Tryd.prog.cellsOf 9 = 1 := by kernel_rfl
  have hb : 0 ≤ (k : Int) ∧ (k : Int) < ((17 : Nat) : Int) := by omega
  have hp := run_part_plain (P := Tryd.prog) (w := w) (e := 9) (by kernel_rfl) hv
  simp only [Instr.index, asIntOf, run_underlying Tryd.underlying101, Sem.run_bind, Sem.run_pure, Result.andThen_ok, run_sizeOf w hi, hc]
  rw [if_pos hb]
  simpa [run_sizeOf w hi, hc] using hp

set_option maxRecDepth 100000 in
set_option maxHeartbeats 1000000 in
theorem lsign_any (s : ByteArray) (L : List Int) (w : World) (hs : Em.IsStr s L) (hg : IsSigns w) :
    Calls Tryd.prog 88 #[.string s] w fun e w' => LexGot e (Em4.sgnAt L) ∧ Below w.heap.size w w' := by
  have HS : Hid (Em.IsStr s L) := hs
  have HG : Hid (IsSigns w) := hg
  have hlt0 := hg.lt
  obtain ⟨x, hx⟩ : ∃ x : Nat → ByteArray, ∀ k, x k = Em.str (Em4.signs[k]?.getD []) := ⟨_, fun _ => rfl⟩
  have c0 : w.cell? ⟨3, 0, none⟩ = some (.string (x 0)) := by rw [hx]; exact hg 0 (by omega)
  have c1 : w.cell? ⟨3, 1, none⟩ = some (.string (x 1)) := by rw [hx]; exact hg 1 (by omega)
  have c2 : w.cell? ⟨3, 2, none⟩ = some (.string (x 2)) := by rw [hx]; exact hg 2 (by omega)
  have c3 : w.cell? ⟨3, 3, none⟩ = some (.string (x 3)) := by rw [hx]; exact hg 3 (by omega)
  have c4 : w.cell? ⟨3, 4, none⟩ = some (.string (x 4)) := by rw [hx]; exact hg 4 (by omega)
  have c5 : w.cell? ⟨3, 5, none⟩ = some (.string (x 5)) := by rw [hx]; exact hg 5 (by omega)
  have c6 : w.cell? ⟨3, 6, none⟩ = some (.string (x 6)) := by rw [hx]; exact hg 6 (by omega)
  have c7 : w.cell? ⟨3, 7, none⟩ = some (.string (x 7)) := by rw [hx]; exact hg 7 (by omega)
  have c8 : w.cell? ⟨3, 8, none⟩ = some (.string (x 8)) := by rw [hx]; exact hg 8 (by omega)
  have c9 : w.cell? ⟨3, 9, none⟩ = some (.string (x 9)) := by rw [hx]; exact hg 9 (by omega)
  have c10 : w.cell? ⟨3, 10, none⟩ = some (.string (x 10)) := by rw [hx]; exact hg 10 (by omega)
  have c11 : w.cell? ⟨3, 11, none⟩ = some (.string (x 11)) := by rw [hx]; exact hg 11 (by omega)
  have c12 : w.cell? ⟨3, 12, none⟩ = some (.string (x 12)) := by rw [hx]; exact hg 12 (by omega)
  have c13 : w.cell? ⟨3, 13, none⟩ = some (.string (x 13)) := by rw [hx]; exact hg 13 (by omega)
  have c14 : w.cell? ⟨3, 14, none⟩ = some (.string (x 14)) := by rw [hx]; exact hg 14 (by omega)
  have c15 : w.cell? ⟨3, 15, none⟩ = some (.string (x 15)) := by rw [hx]; exact hg 15 (by omega)
  have c16 : w.cell? ⟨3, 16, none⟩ = some (.string (x 16)) := by rw [hx]; exact hg 16 (by omega)
  have HX : Hid (∀ k, x k = Em.str (Em4.signs[k]?.getD [])) := hx
  clear hs hg hx
  go_enter Tryd.func88, Tryd.ntmps88
  go_wp2
  clear c0 c1 c2 c3 c4 c5 c6 c7 c8 c9 c10 c11 c12 c13 c14 c15 c16
  obtain ⟨X, hX⟩ : ∃ X : Array Value, X = #[.string (x 0), .string (x 1), .string (x 2), .string (x 3), .string (x 4), .string (x 5), .string (x 6), .string (x 7), .string (x 8), .string (x 9), .string (x 10), .string (x 11), .string (x 12), .string (x 13), .string (x 14), .string (x 15), .string (x 16)] := ⟨_, rfl⟩
  rw [← hX]
  have HA : Hid (∀ j, j < 17 → X[j]? = some (.string (x j))) := by
    intro j hj
    rw [hX]
    rcases j with _ | _ | _ | _ | _ | _ | _ | _ | _ | _ | _ | _ | _ | _ | _ | _ | _ | j
    all_goals first | rfl | omega
  clear hX
  go_loopw [7] (fun i wr => ∃ k : Nat, k ≤ 17 ∧ i = .int .i64 k ∧ wr = w.alloc (.cells #[.int .i64 0, .string ⟨#[]⟩, .int .i64 0, .int .i64 0] 49) ∧ Hid (∀ j, j < k → (Em4.signs[j]?.getD []).isPrefixOf L = false)) (fun i _ => 17 - (intOf i).toNat)
  case atStart => exact ⟨0, Nat.zero_le _, rfl, rfl, fun j h => by omega⟩
  case round =>
    obtain ⟨k, hk, rfl, rfl, HD⟩ := hrel
    by_cases hlt : k < 17
    · have hidx : ∀ wq, (Instr.index 101 (.agg X) (.int .i64 (k : Int))).run Tryd.prog wq = .ok (.string (x k)) wq := fun wq => run_index_arr wq X k hlt _ (HA.out k hlt)
      have hst := signs_str k hlt
      rw [← HX.out k] at hst
      obtain ⟨t, ht⟩ : ∃ t, t = x k := ⟨_, rfl⟩
      obtain ⟨M, hM⟩ : ∃ M, M = Em4.signs[k]?.getD [] := ⟨_, rfl⟩
      rw [← ht] at hst hidx
      rw [← hM] at hst
      have HM : Hid (M = Em4.signs[k]?.getD []) := hM
      have HT : Hid (Em.IsStr t M) := hst
      have hl2 : 0 < M.length ∧ M.length ≤ 2 := by
        have : ∀ l ∈ Em4.signs, 0 < l.length ∧ l.length ≤ 2 := by decide
        have hl : k < Em4.signs.length := hlt
        rw [hM, List.getElem?_eq_getElem hl, Option.getD_some]
        exact this _ (List.getElem_mem hl)
      have hts : t.size ≤ 9223372036854775807 := by
        rw [hst.size]; omega
      have HZ : Hid (t.size = M.length) := hst.size
      clear ht hM hst
      go_wp2_with fail
      refine (hasPrefix_any _ _ L M _ HS.out HT.out hts).mono ?_
      rintro e w1 ⟨rfl, rfl⟩
      cases hp : M.isPrefixOf L with
      | true =>
        have HR : Hid (Em4.sgnAt L = some (4, M, 0, M.length)) := by
          have h1 : Em4.sgn L = M := by
            rw [HM.out]
            exact sgn_at hlt (by rw [← HM.out]; exact hp) HD.out
          rw [Hid, Em4.sgnAt, h1, if_neg (by intro h; rw [h] at hl2; simp at hl2)]
        clear hp
        go_wp2
        refine bodyPost_ret (v := .tuple #[tokV 4 t 0 0, .int .i64 t.size]) (by simp [results, Tryd.results88, go_sem]) rfl ⟨?_, ?_⟩
        · rw [HR.out]; exact ⟨_, _, _, _, rfl, rfl, HT.out, rfl, by rw [HZ.out]⟩
        · first | exact Em.below_set4 ((Below.refl _ _).alloc (Nat.le_refl _) _) (Nat.le_refl _) _ _ _ _ | exact (Below.refl _ _).alloc (Nat.le_refl _) _
      | false =>
        have HF : Hid (M.isPrefixOf L = false) := hp
        clear hp
        go_wp2
        go_roundw
        case rel => exact ⟨k + 1, by omega, by go_num, by first | rfl | trivial, fun j hj => by rcases Nat.lt_succ_iff_lt_or_eq.1 hj with h | rfl; exact HD.out j h; rw [← HM.out]; exact HF.out⟩
        case measure => simp [intOf]; omega
    · have HR : Hid (Em4.sgnAt L = none) := by
        have h1 : Em4.sgn L = [] := sgn_none fun j hj => HD.out j (by omega)
        rw [Hid, Em4.sgnAt, if_pos h1]
      go_wp2
      refine bodyPost_ret (v := .tuple #[tokV 0 ⟨#[]⟩ 0 0, .int .i64 0]) (by simp [results, Tryd.results88, go_sem]) rfl ⟨?_, ?_⟩
      · rw [HR.out]; exact ⟨_, _, _, _, rfl, rfl⟩
      · first | exact Em.below_set4 ((Below.refl _ _).alloc (Nat.le_refl _) _) (Nat.le_refl _) _ _ _ _ | exact (Below.refl _ _).alloc (Nat.le_refl _) _
end Go.Proofs.YtoekhejpompjlaaDoor

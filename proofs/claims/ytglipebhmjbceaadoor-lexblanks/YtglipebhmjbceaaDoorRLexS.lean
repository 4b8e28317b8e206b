/- What the document's own 'sign' answers. -/
import Derived.Test.YtglipebhmjbceaaDoorRLexA
namespace Go.Proofs.YtglipebhmjbceaaDoor
open Go.RowKit

/-- The signs, as they lie in memory. -/
def signsV : Array Value := (Em4.signs.map fun l => Value.string (Em.str l)).toArray
theorem signs_cell (w : World) (k : Nat) (hk : k < 17) : (w.alloc (.cells signsV 9)).cell? ⟨w.heap.size, k, none⟩ = some (.string (Em.str (Em4.signs[k]?.getD []))) := by
  rw [World.cell?_alloc_mark]
  have hl : k < Em4.signs.length := hk
  simp [signsV, hl]
theorem signs_str (k : Nat) (hk : k < 17) : Em.IsStr (Em.str (Em4.signs[k]?.getD [])) (Em4.signs[k]?.getD []) := by
  refine Em.isStr_str ?_
  have hl : k < Em4.signs.length := hk
  rw [List.getElem?_eq_getElem hl, Option.getD_some]
  have : ∀ l ∈ Em4.signs, ∀ x ∈ l, 0 ≤ x ∧ x ≤ 255 := by decide
  exact this _ (List.getElem_mem hl)

theorem find_at {p : List Int → Bool} : ∀ (l : List (List Int)) (k : Nat), k < l.length → p (l[k]?.getD []) = true → (∀ j, j < k → p (l[j]?.getD []) = false) → l.find? p = some (l[k]?.getD [])
  | [], k, h, _, _ => by simp at h
  | x :: r, 0, _, h, _ => by simp at h; simp [h]
  | x :: r, k + 1, hk, h, hn => by
    have h0 := hn 0 (by omega)
    simp at h0 h ⊢
    exact Or.inr ⟨h0, find_at (p := p) r k (by simpa using hk) h (fun j hj => by simpa using hn (j + 1) (by omega))⟩
theorem sgn_at {L : List Int} {k : Nat} (hk : k < 17) (h : (Em4.signs[k]?.getD []).isPrefixOf L = true) (hn : ∀ j, j < k → (Em4.signs[j]?.getD []).isPrefixOf L = false) : Em4.sgn L = Em4.signs[k]?.getD [] := by
  unfold Em4.sgn
  rw [find_at (p := fun s => s.isPrefixOf L) Em4.signs k hk h hn]; rfl
theorem sgn_none {L : List Int} (hn : ∀ j, j < 17 → (Em4.signs[j]?.getD []).isPrefixOf L = false) : Em4.sgn L = [] := by
  unfold Em4.sgn
  have : Em4.signs.find? (fun s => s.isPrefixOf L) = none := by
    rw [List.find?_eq_none]
    intro x hx
    obtain ⟨j, hj, rfl⟩ := List.getElem_of_mem hx
    have := hn j hj
    rw [List.getElem?_eq_getElem hj, Option.getD_some] at this
    simp [this]
  rw [this]; rfl
set_option maxRecDepth 100000 in
set_option maxHeartbeats 1000000 in
theorem rsign_any (s : ByteArray) (L : List Int) (w : World) (hs : Em.IsStr s L) :
    Calls Tryd.prog 29 #[.string s] w fun e w' => (∃ t, e = .returned (.string t) ∧ Em.IsStr t (Em4.sgn L)) ∧ Below w.heap.size w w' := by
  have HS : Hid (Em.IsStr s L) := hs
  have HZ : Hid (s.size = L.length) := hs.size
  clear hs
  go_enter Tryd.func29, Tryd.ntmps29
  go_wp2
  go_loopw [4] (fun i wr => ∃ k : Nat, k ≤ 17 ∧ i = .int .i64 k ∧ Hid (∀ k, k < 17 → wr.cell? ⟨w.heap.size, k, none⟩ = some (.string (Em.str (Em4.signs[k]?.getD [])))) ∧ Below w.heap.size w wr ∧ Hid (∀ j, j < k → (Em4.signs[j]?.getD []).isPrefixOf L = false)) (fun i _ => 17 - (intOf i).toNat)
  case atStart => exact ⟨0, Nat.zero_le _, rfl, fun k hk => signs_cell w k hk, (Below.refl _ _).alloc (Nat.le_refl _) _, fun j h => by omega⟩
  case round =>
    obtain ⟨k, hk, rfl, HC, hbel, HD⟩ := hrel
    by_cases hlt : k < 17
    · have hcell := HC.out k hlt
      have hst := signs_str k hlt
      obtain ⟨M, hM⟩ : ∃ M, M = Em4.signs[k]?.getD [] := ⟨_, rfl⟩
      rw [← hM] at hcell hst
      have HM : Hid (M = Em4.signs[k]?.getD []) := hM
      clear hM
      obtain ⟨t, ht⟩ : ∃ t, t = Em.str M := ⟨_, rfl⟩
      rw [← ht] at hcell hst
      have HT : Hid (Em.IsStr t M) := hst
      have hts : t.size ≤ 9223372036854775807 := by
        have h1 : t.size = M.length := hst.size
        have : ∀ l ∈ Em4.signs, l.length ≤ 2 := by decide
        have hl : k < Em4.signs.length := hlt
        rw [h1, HM.out, List.getElem?_eq_getElem hl, Option.getD_some]
        have := this _ (List.getElem_mem hl)
        omega
      clear ht hst
      have HP : Hid (M.isPrefixOf L = true ↔ t.size ≤ s.size ∧ L.take t.size = M) := by
        have h1 := HT.out.size
        have h2 := HZ.out
        rw [List.isPrefixOf_iff_prefix, List.prefix_iff_eq_take, h1, h2]
        constructor
        · intro h
          refine ⟨?_, h.symm⟩
          have := congrArg List.length h
          rw [List.length_take] at this
          omega
        · intro h; exact h.2.symm
      have hk17 : (k : Int) < 17 := by omega
      have hk0 : (0 : Int) ≤ (k : Int) := by omega
      by_cases hsz : t.size ≤ s.size
      · have hq := (HS.out.extract 0 t.size).beq HT.out
        simp only [List.drop_zero, Nat.sub_zero] at hq
        have hsz1 : (t.size : Int) ≤ (s.size : Int) := by omega
        have hsz0 : (0 : Int) ≤ (t.size : Int) := by omega
        have hd : decide ((t.size : Int) ≤ (s.size : Int)) = true := decide_eq_true hsz1
        by_cases he : L.take t.size = M
        · rw [decide_eq_true he] at hq
          have HF : Hid (Em4.sgn L = M) := by
            have hp := HP.out.2 ⟨hsz, he⟩
            rw [HM.out] at hp ⊢
            exact sgn_at hlt hp HD.out
          clear he
          go_wp2_with fail
          go_quiet (fail)
          have hbel2 := Em.below_drewN hbel nq
          go_wp2
          go_ret
          exact ⟨⟨_, rfl, by rw [HF.out]; exact HT.out⟩, hbel2⟩
        · rw [decide_eq_false he] at hq
          have HF : Hid (M.isPrefixOf L = false) := by
            rw [Hid, Bool.eq_false_iff]; intro h; exact he (HP.out.1 h).2
          clear he
          go_wp2_with fail
          go_quiet (fail)
          go_wp2
          go_roundw
          case rel => exact ⟨k + 1, by omega, by go_num, fun j hj => by simpa using HC.out j hj, Em.below_drewN hbel nq, fun j hj => by rcases Nat.lt_succ_iff_lt_or_eq.1 hj with h | rfl; exact HD.out j h; rw [← HM.out]; exact HF.out⟩
          case measure => simp [intOf]; omega
      · have HF : Hid (M.isPrefixOf L = false) := by
          rw [Hid, Bool.eq_false_iff]; intro h; exact hsz (HP.out.1 h).1
        have hd : decide ((t.size : Int) ≤ (s.size : Int)) = false := decide_eq_false (by omega)
        go_wp2_with fail
        go_quiet (fail)
        go_wp2
        go_roundw
        case rel => exact ⟨k + 1, by omega, by go_num, fun j hj => by simpa using HC.out j hj, Em.below_drewN hbel nq, fun j hj => by rcases Nat.lt_succ_iff_lt_or_eq.1 hj with h | rfl; exact HD.out j h; rw [← HM.out]; exact HF.out⟩
        case measure => simp [intOf]; omega
    · have HF : Hid (Em4.sgn L = []) := sgn_none fun j hj => HD.out j (by omega)
      go_wp2
      go_ret
      exact ⟨⟨_, rfl, by rw [HF.out]; exact ⟨rfl, by simp⟩⟩, hbel⟩
end Go.Proofs.YtglipebhmjbceaaDoor

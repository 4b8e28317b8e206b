/- What the document's own Get answers: what varint.Get does. -/
import Derived.Test.YtecoopclaogoiaaMath1b
import Derived.Test.YtecoopclaogoiaaOwn
import Derived.Test.YtecoopclaogoiaaRPut
import Derived.Deep.RegionHeld3
namespace Go.Proofs.Ytecoopclaogoiaa
open Go.RowKit

theorem bytes_take {w : World} {b off cap : Nat} {L : List Int} (n : Nat) (hn : n ≤ L.length) (hlen : L.length ≤ cap) (hcap : cap ≤ maxLen) (hL : ∀ x ∈ L, 0 ≤ x ∧ x ≤ 255)
    (hc : ∀ j, j < L.length → w.cell? ⟨b, off + j, none⟩ = some (.int .u8 (L.getD j 0))) : Em.IsBytes w (.slice (some ⟨b, off, none⟩) n cap) (L.take n) := by
  have e : (L.take n).length = n := by simp; omega
  refine ⟨_, _, by rw [e], by rw [e]; omega, hcap, (fun h => by cases h), fun x hx => hL x (List.mem_of_mem_take hx), fun j hj => ⟨_, rfl, ?_⟩⟩
  rw [e] at hj
  rw [show (⟨b, off, none⟩ : Addr).add j = ⟨b, off + j, none⟩ from by unfold Addr.add; split <;> simp_all, hc j (by omega)]
  simp [hj]

theorem str_ne {L M : List Int} (h : L ≠ M) (hL : ∀ x ∈ L, 0 ≤ x ∧ x ≤ 255) (hM : ∀ x ∈ M, 0 ≤ x ∧ x ≤ 255) : ((Em.str L).toList == (Em.str M).toList) = false := by
  rw [beq_eq_false_iff_ne]
  intro e
  apply h
  apply Em.str_inj hL hM
  exact Em.toList_inj e

set_option maxRecDepth 100000 in
set_option maxHeartbeats 2000000 in
theorem rget_some (b off cap : Nat) (L : List Int) (w : World) (hlen : L.length ≤ cap) (hcap : cap ≤ 9223372036854775807) (hL : ∀ x ∈ L, 0 ≤ x ∧ x ≤ 255)
    (hc : ∀ j, j < L.length → w.cell? ⟨b, off + j, none⟩ = some (.int .u8 (L.getD j 0))) :
    Calls Try.prog 20 #[.slice (some ⟨b, off, none⟩) L.length cap] w fun e w' => e = .returned (getRes (Em1.get L)) ∧ Below w.heap.size w w' := by
  go_enter Try.func20, Try.ntmps20
  go_wp2
  go_loop [5, 6] (fun x i => ∃ (k X : Nat), k ≤ L.length ∧ k ≤ 10 ∧ i = .int .i64 k ∧ x = .int .u64 X ∧ Hid (k ≤ 9 → X = Em1.val (L.take k) ∧ (∀ x ∈ L.take k, 128 ≤ x ∧ x ≤ 255) ∧ Em1.get L = Em1.getR k X (L.drop k)) ∧ Hid (k = 10 → Em1.get L = none)) (fun _ i => L.length - (intOf i).toNat)
  case atStart => exact ⟨0, 0, by omega, by omega, rfl, rfl, fun _ => ⟨rfl, by simp, rfl⟩, fun h => by cases h⟩
  case round =>
    obtain ⟨k, X, hk, hk10, rfl, rfl, HI, HN⟩ := hrel
    by_cases hlt : k < L.length
    · by_cases h10 : k < 10
      · obtain ⟨hX, hP, hget⟩ := HI.out (by omega)
        obtain ⟨c, hcd⟩ : ∃ c, c = L[k]?.getD 0 := ⟨_, rfl⟩
        have hcell : w.cell? ⟨b, off + k, none⟩ = some (.int .u8 c) := by rw [hc k hlt, hcd]; simp
        have hb := Em.getD_bd hL k
        rw [← hcd] at hb
        obtain ⟨hb0, hb1⟩ := hb
        have hmask := Em1.mask127 hb0 hb1
        have hbt : Em.IsBytes w (.slice (some ⟨b, off, none⟩) (k + 1) cap) (L.take k ++ [c]) := by
          rw [hcd, ← Em1.take_snoc hlt]; exact bytes_take (k + 1) hlt hlen (by unfold maxLen; exact hcap) hL hc
        have HS : Hid (L.drop k = c :: L.drop (k + 1)) := by rw [hcd]; exact Em1.drop_step hlt
        have HT : Hid (L.take (k + 1) = L.take k ++ [c]) := by rw [hcd]; exact Em1.take_snoc hlt
        have hlk : (L.take k).length = k := by simp; omega
        obtain ⟨V, hor, hV, hVs⟩ := Em1.or_any k X (c % 128) (by omega) (by have := Em1.val_lt (L.take k); rw [hlk, ← hX] at this; exact this) (by omega) (by omega)
        have HK : Hid (Em1.get L = Em1.getR k X (c :: L.drop (k + 1)) ∧ (∀ x ∈ L.take k, 128 ≤ x ∧ x ≤ 255) ∧ X = Em1.val (L.take k) ∧ ((k = 9 → c % 128 ≤ 1) → V = X + (c % 128).toNat * 128 ^ k) ∧ (L.take k).length = k) :=
          ⟨by rw [← HS.out]; exact hget, hP, hX, hVs, hlk⟩
        have hV2 : V ≤ 18446744073709551615 := by omega
        clear hc hL hcd hX hP hget hVs hlk HI HN HS hV
        by_cases h128 : 128 ≤ c
        · clear hbt
          go_wp2
          go_round
          case rel =>
            obtain ⟨g, hP, hX, hVs, hlk⟩ := HK.out
            refine ⟨k + 1, V, by omega, by omega, by go_num, rfl, ?_, ?_⟩
            · intro h9
              have hVe := hVs (by omega)
              refine ⟨?_, ?_, ?_⟩
              · rw [HT.out, Em1.val_snoc, hlk, ← hX]; exact hVe
              · rw [HT.out]
                intro x hx
                simp only [List.mem_append, List.mem_singleton] at hx
                rcases hx with hx | rfl
                · exact hP x hx
                · omega
              · rw [g, Em1.getR_on k X c _ (by omega) h128, ← hVe]
            · intro h9
              rw [g]
              exact Em1.getR_great k X c _ (by omega) (by omega)
          case measure => simp [intOf]; omega
        · have HC : Hid (∀ w', Below w.heap.size w w' → (convert 22 9 (.slice (some ⟨b, off, none⟩) (k + 1) cap)).run Try.prog w' = .ok (.string (Em.str (L.take k ++ [c]))) w') :=
            fun w' h => Em.run_str 22 9 5 Try.underlying22 Try.underlying5 Try.underlying9 (hbt.below h)
          clear hbt
          have hkc : k + 1 ≤ cap := by omega
          obtain ⟨t1, t2⟩ := Em1.doc_test (r := L.drop (k + 1)) HK.out.2.1 HK.out.2.2.2.2 (by omega) hb0 (by omega) HK.out.2.2.1 (by omega) (fun h => HK.out.2.2.2.1 (by omega))
          by_cases hq : Em1.put V = L.take k ++ [c]
          · have HV : Hid (Em1.get L = some (V, k + 1)) := by rw [HK.out.1]; exact t1 hq
            clear t1 t2
            have hne : ((Em.str (Em1.put V)).toList == (Em.str (L.take k ++ [c])).toList) = true := by rw [hq]; simp
            go_wp2_with fail
            have hd1 : (convert 22 9 (.slice (some ⟨b, off, none⟩) (k + 1) cap)).run Try.prog w.drew = .ok (.string (Em.str (L.take k ++ [c]))) w.drew := HC.out _ (Below.refl _ _).drew
            have hw1 : IntKind.i64.wrap ((k : Int) + 1) = (k : Int) + 1 := by rw [IntKind.wrap_i64]; omega
            have hi1 : (0 : Int) ≤ (k : Int) + 1 := by omega
            have hi2 : (k : Int) + 1 ≤ (cap : Int) := by omega
            go_region_with (first | (go_at_call 15; refine (rput_any V _ hV2).mono ?_; rintro e w1 ⟨u, rfl, hown, hbel⟩; have hb2 : Below w.heap.size w w1 := ((Below.refl _ _).drew).trans hbel; have hd2 := HC.out _ hb2; have hs := Em.run_str (P := Try.prog) 22 9 5 Try.underlying22 Try.underlying5 Try.underlying9 (Em.IsBytes.own (Em1.put_bytes V (by omega)) hown); clear hown hbel))
            all_goals
              go_wp2
              go_ret3
              exact ⟨by rw [HV.out]; simp [getRes], by assumption⟩
          · have HV : Hid (Em1.get L = none) := by rw [HK.out.1]; exact t2 hq
            clear t1 t2
            have hne : ((Em.str (Em1.put V)).toList == (Em.str (L.take k ++ [c])).toList) = false := by exact str_ne hq (Em1.put_bytes V (by omega)) (fun x hx => by simp only [List.mem_append, List.mem_singleton] at hx; rcases hx with hx | rfl; have := HK.out.2.1 x hx; omega; omega)
            go_wp2_with fail
            have hd1 : (convert 22 9 (.slice (some ⟨b, off, none⟩) (k + 1) cap)).run Try.prog w.drew = .ok (.string (Em.str (L.take k ++ [c]))) w.drew := HC.out _ (Below.refl _ _).drew
            have hw1 : IntKind.i64.wrap ((k : Int) + 1) = (k : Int) + 1 := by rw [IntKind.wrap_i64]; omega
            have hi1 : (0 : Int) ≤ (k : Int) + 1 := by omega
            have hi2 : (k : Int) + 1 ≤ (cap : Int) := by omega
            go_region_with (first | (go_at_call 15; refine (rput_any V _ hV2).mono ?_; rintro e w1 ⟨u, rfl, hown, hbel⟩; have hb2 : Below w.heap.size w w1 := ((Below.refl _ _).drew).trans hbel; have hd2 := HC.out _ hb2; have hs := Em.run_str (P := Try.prog) 22 9 5 Try.underlying22 Try.underlying5 Try.underlying9 (Em.IsBytes.own (Em1.put_bytes V (by omega)) hown); clear hown hbel))
            all_goals
              go_wp2
              go_ret3
              exact ⟨by rw [HV.out]; rfl, by assumption⟩
      · have HV : Hid (Em1.get L = none) := HN.out (by omega)
        go_wp2
        go_ret3
        exact ⟨by rw [HV.out]; rfl, Below.refl _ _⟩
    · have HV : Hid (Em1.get L = none) := by
        by_cases h9 : k ≤ 9
        · rw [Hid, (HI.out h9).2.2, List.drop_eq_nil_of_le (by omega)]; rfl
        · exact HN.out (by omega)
      go_wp2
      go_ret3
      exact ⟨by rw [HV.out]; rfl, Below.refl _ _⟩

set_option maxHeartbeats 400000 in
theorem rget_empty (a : Option Addr) (cap : Nat) (w : World) :
    Calls Try.prog 20 #[.slice a 0 cap] w fun e w' => e = .returned (getRes none) ∧ Below w.heap.size w w' := by
  go_enter Try.func20, Try.ntmps20
  go_wp2
  refine wp_loop_rounds 1 ?_
  rw [rounds_succ]
  go_wp2
  go_ret3
  exact ⟨rfl, Below.refl _ _⟩

/-- The document's own Get, of any bytes. -/
theorem rget_any (u : Value) (L : List Int) (w : World) (h : Em.IsBytes w u L) :
    Calls Try.prog 20 #[u] w fun e w' => e = .returned (getRes (Em1.get L)) ∧ Below w.heap.size w w' := by
  by_cases hp : 0 < L.length
  · obtain ⟨b, off, cap, rfl, h1, h2, hc⟩ := h.plain hp
    exact rget_some b off cap L w h1 h2 h.bd hc
  · have h0 : L.length = 0 := by omega
    obtain ⟨a, cap, rfl, -, -⟩ := h.empty h0
    have : L = [] := List.length_eq_zero_iff.1 h0
    subst this
    exact rget_empty a cap w
end Go.Proofs.Ytecoopclaogoiaa

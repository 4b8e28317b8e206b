/- What frame.Put answers. -/
import Derived.Test.YtecoopclaogoiaaPut
import Derived.Test.YtecoopclaogoiaaFLib
namespace Go.Proofs.Ytecoopclaogoiaa
open Go.RowKit

set_option maxRecDepth 100000 in
set_option maxHeartbeats 1000000 in
theorem fput_great (k : Int) (u : Value) (B : List Int) (w : World) (hu : Em.IsBytes w u B) (hl : 4000 < B.length) :
    Calls Try.prog 8 #[.int .u8 k, u] w fun e w' => e = .returned (.tuple #[.slice none 0 0, .bool false]) ∧ w' = w := by
  have hlen := hu.len
  obtain ⟨a, cap, rfl, -⟩ := hu
  go_enter Try.func8, Try.ntmps8
  go_wp2_with fail
  go_ret2
  exact ⟨rfl, rfl⟩

set_option maxRecDepth 100000 in
set_option maxHeartbeats 1000000 in
theorem fput_any (k : Int) (u : Value) (B : List Int) (w : World) (h0 : 0 ≤ k) (h1 : k ≤ 255) (hu : Em.IsBytes w u B) (hl : B.length ≤ 4000) :
    Calls Try.prog 8 #[.int .u8 k, u] w fun e w' => ∃ v, e = .returned (.tuple #[v, .bool true]) ∧ Own w' w.heap.size v (Em3.frm k B) ∧ Below w.heap.size w w' := by
  obtain ⟨i0, hi, hz0, hz1, hz2⟩ := info_parts infoByte
  have hbB := hu.bd
  have HU : Hid (∀ w', Below w.heap.size w w' → Em.IsBytes w' u B) := fun w' h => hu.below h
  obtain ⟨a, cap, rfl, hc1, hc2, hnil, -, -⟩ := hu
  have hp := Em1.put_len B.length
  have hpb := Em1.put_bytes B.length (by omega)
  go_enter Try.func8, Try.ntmps8
  go_wp2_with fail
  refine (put_any B.length _ (by omega)).mono ?_
  rintro e w1 ⟨u1, rfl, hown1, hbel1⟩
  obtain ⟨P, hP⟩ : ∃ P, P = Em1.put B.length := ⟨_, rfl⟩
  rw [← hP] at hown1 hp hpb
  have HP : Hid (P = Em1.put B.length) := hP
  clear hP
  have hI1 := Em.IsBytes.own hpb hown1
  have HI : Hid (∀ w', Below w1.heap.size w1 w' → Em.IsBytes w' u1 P) := fun w' h => hI1.below h
  obtain ⟨g1, gc1, rfl, -, -⟩ := Em.own_shape hown1 hp.1
  clear hown1 hpb hI1 hnil
  go_wp2_with (first | (at_make; refine wpList_make_own _ rfl _ _ 22 rfl w1.heap.size 5 i0 (.int .u8 0) 1 Try.underlying22 hi hz0 hz1 .i64 .i64 ((1 + P.length + B.length + 4 : Nat) : Int) (1 + P.length + B.length + 4) rfl (by go_num) rfl (by rw [hz2]; omega) (by unfold maxLen; omega) (Nat.le_refl _) ?_; intro w2 hown2 hgrow2; have bel2 : Below w1.heap.size w1 w2 := (Below.refl _ _).grown hgrow2 (Nat.le_refl _) (by intro k h; cases h); have bel2' := bel2.alloc bel2.size (.cells #[.int .u8 k] 5); have n2 : Em.IsBytes (w2.alloc (.cells #[.int .u8 k] 5)) (.slice (some ⟨w2.heap.size, 0, none⟩) 1 1) [k] := Em.IsBytes.own (base := w2.heap.size) (e := 5) (by simp; omega) (own_one w2 k); have o2 : Own (w2.alloc (.cells #[.int .u8 k] 5)) w1.heap.size (.slice (some ⟨w1.heap.size, 0, none⟩) 0 (1 + P.length + B.length + 4)) [] := hown2.alloc _; clear hown2 hgrow2) | (at_builtin; refine wpList_app rfl (.tmp 23) (.tmp 25) rfl w1.heap.size _ [] rfl o2 _ [k] rfl n2 (by simp) bel2'.size ?_; intro v3 w3 o3 _ hb3; have bel3 := bel2'.trans hb3; rw [List.nil_append] at o3; clear o2 n2 hb3 bel2 bel2') | (at_builtin; refine wpList_app rfl (.tmp 27) (.tmp 28) rfl w1.heap.size _ [k] rfl o3 _ P rfl (HI.out _ bel3) (by simp; omega) bel3.size ?_; intro v4 w4 o4 _ hb4; have bel4 := bel3.trans hb4; clear o3 hb4) | (at_builtin; refine wpList_app rfl (.tmp 30) (.tmp 31) rfl w1.heap.size _ ([k] ++ P) rfl o4 _ B rfl (HU.out _ (hbel1.trans (bel4.mono hbel1.size))) (by simp; omega) bel4.size ?_; intro v5 w5 o5 _ hb5; have bel5 := bel4.trans hb5; clear o4 hb5))
  have hH : [k] ++ P ++ B = Em3.head k B := by rw [HP.out]; simp [Em3.head]
  rw [hH] at o5
  have hhl := Em3.head_len k B
  rw [← HP.out] at hhl
  have hhb := Em3.head_bytes h0 h1 hbB (by omega)
  clear hH HP
  obtain ⟨H, hHd⟩ : ∃ H, H = Em3.head k B := ⟨_, rfl⟩
  have HH : Hid (Em3.frm k B = H ++ Em3.be4 (Em2.adler H)) := by rw [hHd]; rfl
  rw [← hHd] at o5 hhl hhb
  clear hHd
  refine (tail_any _ _ _ (Em.IsBytes.own hhb o5)).mono ?_
  rintro e w6 ⟨v6, rfl, hown6, hbel6⟩
  have n6 := Em.IsBytes.own (Em3.be4_bytes _) hown6
  have o6 := own_below o5 hbel6
  have bel6 := bel5.trans (hbel6.mono bel5.size)
  clear o5 hbel6 hown6
  obtain ⟨T, hT⟩ : ∃ T, T = Em3.be4 (Em2.adler H) := ⟨_, rfl⟩
  have hTl : T.length = 4 := by rw [hT]; rfl
  rw [← hT] at n6
  have HT : Hid (T = Em3.be4 (Em2.adler H)) := hT
  clear hT
  go_wp2_with (at_builtin; refine wpList_app rfl (.tmp 33) (.tmp 35) rfl w1.heap.size _ H rfl o6 _ T rfl n6 (by omega) bel6.size ?_; intro v8 w8 o9 _ hb9; have bel9 := bel6.trans hb9; clear o6 hb9 n6)
  go_ret2
  refine ⟨_, rfl, ?_, hbel1.trans (bel9.mono hbel1.size)⟩
  rw [HH.out, ← HT.out]
  exact own_base o9 hbel1.size
end Go.Proofs.Ytecoopclaogoiaa

/- What the document's own frame Put answers. -/
import Derived.Test.YtecoopclaogoiaaOwn
import Derived.Test.YtecoopclaogoiaaRPut
import Derived.Test.YtecoopclaogoiaaRAdler
import Derived.Test.YtecoopclaogoiaaMath3
namespace Go.Proofs.Ytecoopclaogoiaa
open Go.RowKit

theorem bytes_four (w : World) (t : TypeId) {g : Nat} (hg : g = w.heap.size) (x : Int) (hx0 : 0 ≤ x) (hx1 : x ≤ 4293984240) : Em.IsBytes (w.alloc (.cells #[.int .u8 (x / 16777216), .int .u8 (x / 65536 % 256), .int .u8 (x / 256 % 256), .int .u8 (x % 256)] t)) (.slice (some ⟨g, 0, none⟩) 4 4) (Em3.be4 x) := by
  subst hg
  refine ⟨some ⟨w.heap.size, 0, none⟩, 4, rfl, by simp [Em3.be4_len], by simp [maxLen], (fun h => by cases h), Em3.be4_bytes x, fun j hj => ⟨_, rfl, ?_⟩⟩
  rw [Em3.be4_len] at hj
  match j, hj with
  | 0, _ => simp [Addr.add, Em3.be4]; omega
  | 1, _ => simp [Addr.add, Em3.be4]
  | 2, _ => simp [Addr.add, Em3.be4]
  | 3, _ => simp [Addr.add, Em3.be4]

set_option maxRecDepth 100000 in
set_option maxHeartbeats 1000000 in
theorem rfput_great (k : Int) (u : Value) (B : List Int) (w : World) (hu : Em.IsBytes w u B) (hl : 4000 < B.length) :
    Calls Try.prog 9 #[.int .u8 k, u] w fun e w' => e = .returned (.tuple #[.slice none 0 0, .bool false]) ∧ w' = w := by
  have hlen := hu.len
  obtain ⟨a, cap, rfl, -⟩ := hu
  go_enter Try.func9, Try.ntmps9
  go_wp2_with fail
  go_ret2
  exact ⟨rfl, rfl⟩

set_option maxRecDepth 100000 in
set_option maxHeartbeats 1000000 in
theorem rfput_any (k : Int) (u : Value) (B : List Int) (w : World) (h0 : 0 ≤ k) (h1 : k ≤ 255) (hu : Em.IsBytes w u B) (hl : B.length ≤ 4000) :
    Calls Try.prog 9 #[.int .u8 k, u] w fun e w' => ∃ v, e = .returned (.tuple #[v, .bool true]) ∧ Own w' w.heap.size v (Em3.frm k B) ∧ Below w.heap.size w w' := by
  obtain ⟨i0, hi, hz0, hz1, hz2⟩ := info_parts infoByte
  have hbB := hu.bd
  have HU : Hid (∀ w', Below w.heap.size w w' → Em.IsBytes w' u B) := fun w' h => hu.below h
  obtain ⟨a, cap, rfl, hc1, hc2, hnil, -, -⟩ := hu
  have hp := Em1.put_len B.length
  have hpb := Em1.put_bytes B.length (by omega)
  have o1 := own_one w k
  have bel1 : Below w.heap.size w (w.alloc (.cells #[.int .u8 k] 5)) := (Below.refl _ _).alloc (Nat.le_refl _) _
  go_enter Try.func9, Try.ntmps9
  go_wp2_with fail
  refine (rput_any B.length _ (by omega)).mono ?_
  rintro e w1 ⟨u1, rfl, hown1, hbel1⟩
  obtain ⟨P, hP⟩ : ∃ P, P = Em1.put B.length := ⟨_, rfl⟩
  rw [← hP] at hown1 hp hpb
  have HP : Hid (P = Em1.put B.length) := hP
  clear hP
  have hI1 := Em.IsBytes.own hpb hown1
  have o2 := own_below o1 hbel1
  have bel2 : Below w.heap.size w w1 := bel1.trans (hbel1.mono bel1.size)
  clear o1 hown1 hbel1 bel1 hpb
  go_wp2_with (first | (at_builtin; refine wpList_app rfl (.tmp 12) (.tmp 16) rfl w.heap.size _ [k] rfl o2 _ P rfl hI1 (by simp; omega) bel2.size ?_; intro v2 w2 o3 _ hb3; have bel3 := bel2.trans hb3; clear o2 hI1 hb3) | (at_builtin; refine wpList_app rfl (.tmp 18) (.tmp 19) rfl w.heap.size _ ([k] ++ P) rfl o3 _ B rfl (HU.out _ bel3) (by simp; omega) bel3.size ?_; intro v4 w4 o5 _ hb5; have bel5 := bel3.trans hb5; clear o3 hb5))
  have hH : [k] ++ P ++ B = Em3.head k B := by rw [HP.out]; simp [Em3.head]
  rw [hH] at o5
  have hhl := Em3.head_len k B
  rw [← HP.out] at hhl
  have hhb := Em3.head_bytes h0 h1 hbB (by omega)
  clear hH HP
  obtain ⟨H, hHd⟩ : ∃ H, H = Em3.head k B := ⟨_, rfl⟩
  have HH : Hid (Em3.frm k B = H ++ Em3.be4 (Em2.adler H)) := by rw [hHd]; rfl
  rw [← hHd] at o5 hhl hhb
  clear hHd
  refine (radler_any _ _ _ (Em.IsBytes.own hhb o5)).mono ?_
  rintro e w6 ⟨rfl, rfl⟩
  obtain ⟨x, hx⟩ : ∃ x, x = Em2.adler H := ⟨_, rfl⟩
  obtain ⟨hx0, hx1⟩ := Em2.adler_bd H
  rw [← hx] at hx0 hx1 ⊢
  have HX : Hid (x = Em2.adler H) := hx
  clear hx
  have b7 : Below w6.heap.size w6 (w6.alloc (.cells #[.int .u8 (x / 16777216), .int .u8 (x / 65536 % 256), .int .u8 (x / 256 % 256), .int .u8 (x % 256)] 5)) := (Below.refl _ _).alloc (Nat.le_refl _) _
  have o7 := own_below o5 b7
  have bel7 := bel5.trans (b7.mono bel5.size)
  clear o5 b7
  have n7 : Em.IsBytes (w6.alloc (.cells #[.int .u8 (x / 16777216), .int .u8 (x / 65536 % 256), .int .u8 (x / 256 % 256), .int .u8 (x % 256)] 5)) (.slice (some ⟨w6.heap.size, 0, none⟩) 4 4) (Em3.be4 x) := bytes_four w6 _ rfl x hx0 hx1
  go_wp2_with (at_builtin; refine wpList_app rfl (.tmp 23) (.tmp 35) rfl w.heap.size _ H rfl o7 _ (Em3.be4 x) rfl n7 (by simp [Em3.be4_len]; omega) bel7.size ?_; intro v8 w8 o9 _ hb9; have bel9 := bel7.trans hb9; clear o7 hb9 n7)
  go_ret2
  refine ⟨_, rfl, ?_, bel9⟩
  rw [HH.out, ← HX.out]
  exact o9
end Go.Proofs.Ytecoopclaogoiaa

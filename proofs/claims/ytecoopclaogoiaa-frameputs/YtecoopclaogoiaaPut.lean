/- What varint.Put answers, in memory of the call's own. -/
import Derived.Test.YtecoopclaogoiaaOwn
import Derived.Test.YtecoopclaogoiaaMath1
namespace Go.Proofs.Ytecoopclaogoiaa
open Go.RowKit

set_option maxRecDepth 100000 in
set_option maxHeartbeats 1000000 in
theorem put_any (v : Nat) (w : World) (hv : v ≤ 18446744073709551615) :
    Calls Try.prog 13 #[.int .u64 v] w fun e w' => ∃ u, e = .returned u ∧ Own w' w.heap.size u (Em1.put v) ∧ Below w.heap.size w w' := by
  obtain ⟨i0, hi, hz0, hz1, hz2⟩ := info_parts infoByte
  go_enter Try.func13, Try.ntmps13
  go_wp2_with (at_make; refine wpList_make_own _ rfl _ _ 22 rfl w.heap.size 5 i0 (.int .u8 0) 1 Try.underlying22 hi hz0 hz1 .i64 .i64 10 10 rfl rfl rfl (by rw [hz2]; decide) (by simp [maxLen]) (Nat.le_refl _) ?_; intro w1 hown1 hgrow1)
  have hb1 : Below w.heap.size w w1 := (Below.refl _ _).grown hgrow1 (Nat.le_refl _) (by intro k h; cases h)
  go_loopw [0, 3] (fun x u wr => ∃ (f c : Nat) (xs : List Int), x = .int .u64 c ∧ c ≤ v ∧ xs.length ≤ 10 ∧ Hid (xs.length + f = 10) ∧ Own wr w.heap.size u xs ∧ Below w.heap.size w wr ∧ Hid (c < 128 ^ f) ∧ Hid (Em1.put v = xs ++ Em1.putF f c)) (fun x _ _ => (intOf x).toNat)
  case atStart => exact ⟨10, v, [], rfl, Nat.le_refl _, by simp, rfl, hown1, hb1, Nat.lt_of_lt_of_le (Nat.lt_succ_of_le hv) Em1.pow_ten, rfl⟩
  case round =>
    obtain ⟨f, c, xs, rfl, hcv, hx10, hxf, hown, hbel, hcf, HD⟩ := hrel
    clear hown1 hgrow1 hb1
    by_cases h128 : 128 ≤ c
    · obtain ⟨d, hd⟩ : ∃ d : Int, d = ((c % 128 + 128 : Nat) : Int) := ⟨_, rfl⟩
      have hor := Em1.or128 c
      rw [← hd, IntKind.wrap_u8] at hor
      have Hd : Hid (d = ((c % 128 + 128 : Nat) : Int)) := hd
      clear hd
      go_wp2_with (at_builtin; refine wpList_append_own _ rfl _ _ 22 rfl w.heap.size 5 i0 (.int .u8 0) 1 1 Try.underlying22 hi hz0 hz1 hz2 rfl (by decide) _ _ _ rfl (hown.alloc _) ⟨wr.heap.size, 0, none⟩ 1 1 [.int .u8 d] rfl rfl (cell_one_new _ _ _) ?c2 ?c3 ?c4 ?c5 ?_)
      case c2 => intro u hu; simp at hu; subst hu; rfl
      case c3 => unfold maxLen; omega
      case c4 => omega
      case c5 => have := hbel.size; simp; omega
      · intro v' w1 hown' hgrow _
        have hb' := below_push hbel hown hgrow
        have ho' := own_snoc hown'
        obtain ⟨f', hf, hcf', hput⟩ := Em1.put_round hcf.out h128
        have HP : Hid (f = f' + 1 ∧ c / 128 < 128 ^ f' ∧ Em1.putF f c = ((c % 128 + 128 : Nat) : Int) :: Em1.putF f' (c / 128)) := ⟨hf, hcf', hput⟩
        clear hf hcf' hput hown' hgrow hown hbel hor
        go_wp2
        go_roundw
        case rel => exact ⟨f', c / 128, xs ++ [d], by go_num, by omega, by have := HP.out.1; have := hxf.out; simp; omega, by have := HP.out.1; have := hxf.out; show (xs ++ [d]).length + f' = 10; simp; omega, ho', hb', HP.out.2.1, by rw [Hid, HD.out, HP.out.2.2, Hd.out]; simp⟩
        case measure => simp [intOf]; omega
    · go_wp2_with (at_builtin; refine wpList_append_own _ rfl _ _ 22 rfl w.heap.size 5 i0 (.int .u8 0) 1 1 Try.underlying22 hi hz0 hz1 hz2 rfl (by decide) _ _ _ rfl (hown.alloc _) ⟨wr.heap.size, 0, none⟩ 1 1 [.int .u8 c] rfl rfl (cell_one_new _ _ _) ?d2 ?d3 ?d4 ?d5 ?_)
      case d2 => intro u hu; simp at hu; subst hu; rfl
      case d3 => unfold maxLen; omega
      case d4 => omega
      case d5 => have := hbel.size; simp; omega
      · intro v' w1 hown' hgrow _
        have hb' := below_push hbel hown hgrow
        have ho' := own_snoc hown'
        clear hown' hgrow hown hbel
        go_wp2
        go_ret
        refine ⟨v', rfl, ?_, hb'⟩
        rw [HD.out, Em1.putF_small f c (by omega)]
        exact ho'

end Go.Proofs.Ytecoopclaogoiaa

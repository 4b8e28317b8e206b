/- What lex.Tokens answers. -/
import Derived.Test.YtoekhejpompjlaaDoorLexG1
import Derived.Test.YtoekhejpompjlaaDoorRLexT
namespace Go.Proofs.YtoekhejpompjlaaDoor
open Go.RowKit
set_option linter.unusedSimpArgs false

set_option maxRecDepth 100000 in
set_option maxHeartbeats 1000000 in
theorem ltokens_great (s : ByteArray) (w : World) (h : 2000 < s.size) :
    Calls Tryd.prog 71 #[.string s] w fun e w' => e = .returned (.tuple #[.slice none 0 0, .int .i64 0, .int .i64 7]) ∧ w' = w := by
  go_enter Tryd.func71, Tryd.ntmps71
  go_wp2_with fail
  go_ret3
  exact ⟨rfl, rfl⟩

set_option maxRecDepth 100000 in
set_option maxHeartbeats 2000000 in
theorem ltokens_any (s : ByteArray) (L : List Int) (w : World) (hs : Em.IsStr s L) (h : s.size ≤ 2000) (hg : IsSigns w) :
    Calls Tryd.prog 71 #[.string s] w fun e w' => ToksGot w' w.heap.size e s.size (Em4.toks L) ∧ Below w.heap.size w w' := by
  have HS : Hid (Em.IsStr s L) := hs
  have HZ : Hid (s.size = L.length) := hs.size
  have HG : Hid (IsSigns w) := hg
  clear hs hg
  go_enter Tryd.func71, Tryd.ntmps71
  go_wp2
  go_loopw [2, 3] (fun u i wr => ∃ (k : Nat) (l : List Em4.Tok), k ≤ s.size ∧ i = .int .i64 k ∧ l.length ≤ k ∧ OwnToks wr w.heap.size u l ∧ Below w.heap.size w wr ∧ Hid (Em4.toks L = pre l (Em4.toksF (L.drop k).length k (L.drop k)))) (fun _ i _ => s.size - (intOf i).toNat)
  case atStart => exact ⟨0, [], Nat.zero_le _, rfl, by simp, World.ownsRow_nil _ _ _ _, Below.refl _ _, by rw [pre_nil]; rfl⟩
  case round =>
    obtain ⟨k, l, hk, rfl, hl, hown, hbel, HD⟩ := hrel
    by_cases hlt : k < s.size
    · have hch := HS.out.get k hlt
      obtain ⟨c, hc⟩ : ∃ c, c = L[k]?.getD 0 := ⟨_, rfl⟩
      rw [← hc] at hch
      have hd : L.drop k = c :: L.drop (k + 1) := by rw [hc]; exact drop_step (by rw [← HZ.out]; exact hlt)
      clear hc
      cases hb : Em4.blank c with
      | true =>
        have HV : Hid (Em4.toks L = pre l (Em4.toksF (L.drop (k + 1)).length (k + 1) (L.drop (k + 1)))) := by rw [← Em4.toks_blank hd hb]; exact HD
        clear hd HD
        go_wp2_with (go_at_call 78; refine (lblank_any _ _).mono ?_; rintro e w' ⟨rfl, rfl⟩)
        go_roundw
        case rel => exact ⟨k + 1, l, by omega, by go_num, by omega, hown, hbel, HV⟩
        case measure => simp [intOf]; omega
      | false =>
        have HX : Hid (Em.IsStr (s.extract k s.size) (c :: L.drop (k + 1))) := by
          have := HS.out.extract k s.size
          rw [hd, List.take_of_length_le (by have h1 := congrArg List.length hd; have h2 := HZ.out; simp at h1 ⊢; omega)] at this
          exact this
        have hxs : (s.extract k s.size).size ≤ 9223372036854775800 := by
          rw [HX.out.size]
          have h1 := congrArg List.length hd; have h2 := HZ.out; simp at h1 ⊢; omega
        go_wp2_with (go_at_call 78; refine (lblank_any _ _).mono ?_; rintro e w' ⟨rfl, rfl⟩)
        refine (lfirst_any _ _ _ _ HX.out hxs (HG.out.below hbel HG.out.lt)).mono ?_
        rintro e w1 ⟨⟨tk, ts, tn, tm, rfl, hr⟩, hb1⟩
        have hown1 : OwnToks w1 w.heap.size u2 l := owns_below hown hb1
        have hbel1 : Below w.heap.size w w1 := hbel.trans (hb1.mono hbel.size)
        clear hb1 hown hbel
        cases ht : Em4.tokAt (c :: L.drop (k + 1)) with
        | none =>
          rw [ht] at hr
          simp only at hr
          subst hr
          have HV : Hid (Em4.toks L = .error k) := by rw [Hid, HD.out, Em4.toks_none hd hb ht]; rfl
          clear hd HD hb ht
          go_wp2
          go_ret3
          refine ⟨?_, hbel1.alloc hbel1.size _⟩
          rw [HV.out]; rfl
        | some p =>
          obtain ⟨k', t', n', m'⟩ := p
          rw [ht] at hr
          obtain ⟨rfl, hst, rfl, rfl⟩ := hr
          have hm0 := Em4.tokAt_pos ht
          have hm1 := Em4.tokAt_le ht
          rw [← hd] at hm1
          have hm2 : k + m' ≤ s.size := by have := HZ.out; simp at hm1; omega
          have HV : Hid (Em4.toks L = pre (l ++ [⟨tk, t', tn, k⟩]) (Em4.toksF (L.drop (k + m')).length (k + m') (L.drop (k + m')))) := by
            rw [Hid, HD.out, Em4.toks_some hd hb ht, pre_snoc]
          have hts := hst.1
          subst hts
          have hne : ((m' : Int) == 0) = false := by rw [beq_eq_false_iff_ne]; omega
          clear hd HD hb ht hm1 hst HX
          have hown2 : OwnToks (w1.alloc (.cells #[.int .i64 tk, .string (Em.str t'), .int .i64 tn, .int .i64 (k : Int)] 49)) w.heap.size u2 l := hown1.alloc _
          have hbel2 := hbel1.alloc hbel1.size (.cells #[.int .i64 tk, .string (Em.str t'), .int .i64 tn, .int .i64 (k : Int)] 49)
          clear hown1 hbel1
          go_wp2_with (at_builtin; refine wpList_app_tok rfl _ _ rfl w.heap.size _ l rfl hown2 ⟨tk, t', tn, k⟩ _ (by simp) rfl (by omega) hbel2.size ?_; intro v2 w2 o2 hb2; have hbel3 := hbel2.trans hb2; clear hown2 hbel2 hb2)
          go_roundw
          case rel => exact ⟨k + m', l ++ [⟨tk, t', tn, k⟩], hm2, by go_num, by simp; omega, o2, hbel3, HV⟩
          case measure => simp [intOf]; omega
    · obtain rfl : k = s.size := by omega
      have hke : s.size = L.length := HZ.out
      have HV : Hid (Em4.toks L = .ok (l ++ [⟨5, [], 0, s.size⟩])) := by rw [Hid, HD.out, Em4.toks_end hke, HZ.out]; rfl
      clear HD hke
      have hown2 : OwnToks wr w.heap.size u2 l := hown
      go_wp2_with (at_builtin; refine wpList_app_tok rfl _ _ rfl w.heap.size _ l rfl hown2 ⟨5, [], 0, s.size⟩ _ (by simp) rfl (by omega) hbel.size ?_; intro v2 w2 o2 hb2; have hbel3 := hbel.trans hb2; clear hown2 hbel hb2)
      go_ret3
      refine ⟨?_, hbel3⟩
      rw [HV.out]
      exact ⟨_, rfl, o2⟩
end Go.Proofs.YtoekhejpompjlaaDoor

/- What the document's own Tokens answers. -/
import Derived.Test.YtoekhejpompjlaaDoorRLexM1
import Derived.Test.YtoekhejpompjlaaDoorOwn
namespace Go.Proofs.YtoekhejpompjlaaDoor
open Go.RowKit
set_option linter.unusedSimpArgs false

/-- A token's cells, as they lie in memory. -/
def tokCells (t : Em4.Tok) : List Value := [.int .i64 t.kind, .string (Em.str t.text), .int .i64 t.num, .int .i64 t.pos]
/-- Tokens in a row of memory that begins at block B or behind it. -/
def OwnToks (w : World) (B : Nat) (v : Value) (l : List Em4.Tok) : Prop := w.ownsRow B 49 4 v l.length (l.flatMap tokCells)
theorem infoTok : (Tryd.prog.info? 49).map (fun i => (i.zero, i.size, i.bytes)) = some (some (.agg #[.int .i64 0, .string ⟨#[]⟩, .int .i64 0, .int .i64 0]), 4, 40) := by kernel_rfl
theorem cells_four (w : World) (t : TypeId) {g : Nat} (hg : g = w.heap.size) (a b c d : Value) : ∀ j u, [a, b, c, d][j]? = some u → (w.alloc (.cells #[a, b, c, d] t)).cell? ((⟨g, 0, none⟩ : Addr).add j) = some u := by
  subst hg
  intro j u hj
  match j, hj with
  | 0, hj => simpa [Addr.add] using hj
  | 1, hj => simpa [Addr.add] using hj
  | 2, hj => simpa [Addr.add] using hj
  | 3, hj => simpa [Addr.add] using hj
  | j + 4, hj => simp at hj

/-- 'append(l, t)' onto tokens of one's own. -/
theorem wpList_app_tok {w : World} {ops : Array Oper} {rest : List Oper} {o : Oper} {a : Act} {Q : Exit → Act → World → Prop} (hgd : o.guard = none) (s x : Operand)
    (ho : o.op = .call { callee := .builtin .append, args := #[s, x], argTypes := #[41, 41] })
    (B : Nat) (v : Value) (l : List Em4.Tok) (hs : a.eval s = v) (hown : OwnToks w B v l) (t : Em4.Tok) (g : Nat) (hg : g = w.heap.size) (hx : a.eval x = .slice (some ⟨g, 0, none⟩) 1 1) (hsz : l.length ≤ 1000000) (hb : B ≤ w.heap.size)
    (h : ∀ v' w', OwnToks w' B v' (l ++ [t]) → Below B w w' → wpList Tryd.prog ops Q rest (a.put o.dst v') w') :
    wpList Tryd.prog ops Q (o :: rest) a (w.alloc (.cells #[.int .i64 t.kind, .string (Em.str t.text), .int .i64 t.num, .int .i64 t.pos] 49)) := by
  obtain ⟨i0, hi, hz0, hz1, hz2⟩ := info_parts infoTok
  have ho2 := hown.alloc (.cells #[.int .i64 t.kind, .string (Em.str t.text), .int .i64 t.num, .int .i64 t.pos] 49)
  refine wpList_append_own _ hgd s x 41 ho B 49 i0 _ 4 40 Tryd.underlying41 hi hz0 hz1 hz2 rfl (by decide) v _ _ hs ho2 ⟨g, 0, none⟩ 1 1 (tokCells t) hx rfl (cells_four w _ hg _ _ _ _) (by intro u hu; simp only [tokCells, List.mem_cons, List.not_mem_nil, or_false] at hu; rcases hu with rfl | rfl | rfl | rfl <;> rfl) (by unfold maxLen; omega) (by omega) (by simp; omega) ?_
  intro v' w' h1 h2 _
  refine h v' w' ?_ ?_
  · unfold OwnToks; simpa using h1
  · exact ((Below.refl _ _).alloc hb _).grown h2 (by simp; omega) (fun k hk => (hown.lt k hk).1)

theorem drop_step {L : List Int} {k : Nat} (h : k < L.length) : L.drop k = L[k]?.getD 0 :: L.drop (k + 1) := by
  rw [List.getElem?_eq_getElem h]; simp
/-- What stands ahead, and what comes. -/
def pre (l : List Em4.Tok) : Except Nat (List Em4.Tok) → Except Nat (List Em4.Tok)
  | .error j => .error j
  | .ok r => .ok (l ++ r)
theorem pre_nil (r : Except Nat (List Em4.Tok)) : pre [] r = r := by cases r <;> rfl
theorem pre_snoc (l : List Em4.Tok) (t : Em4.Tok) (r : Except Nat (List Em4.Tok)) : pre l (Em4.cns t r) = pre (l ++ [t]) r := by
  cases r <;> simp [pre, Em4.cns]

set_option maxRecDepth 100000 in
set_option maxHeartbeats 1000000 in
theorem rtokens_great (s : ByteArray) (w : World) (h : 2000 < s.size) :
    Calls Tryd.prog 21 #[.string s] w fun e w' => e = .returned (.tuple #[.slice none 0 0, .int .i64 0, .int .i64 7]) ∧ w' = w := by
  go_enter Tryd.func21, Tryd.ntmps21
  go_wp2_with fail
  go_ret3
  exact ⟨rfl, rfl⟩

/-- What Tokens hands back. -/
def ToksGot (w : World) (B : Nat) (e : Ending) (n : Nat) (r : Except Nat (List Em4.Tok)) : Prop :=
  match r with
  | .error i => e = .returned (.tuple #[.slice none 0 0, .int .i64 i, .int .i64 2])
  | .ok l => ∃ v, e = .returned (.tuple #[v, .int .i64 n, .int .i64 0]) ∧ OwnToks w B v l

set_option maxRecDepth 100000 in
set_option maxHeartbeats 2000000 in
theorem rtokens_any (s : ByteArray) (L : List Int) (w : World) (hs : Em.IsStr s L) (h : s.size ≤ 2000) :
    Calls Tryd.prog 21 #[.string s] w fun e w' => ToksGot w' w.heap.size e s.size (Em4.toks L) ∧ Below w.heap.size w w' := by
  have HS : Hid (Em.IsStr s L) := hs
  have HZ : Hid (s.size = L.length) := hs.size
  clear hs
  go_enter Tryd.func21, Tryd.ntmps21
  go_wp2
  go_loopw [5, 6] (fun u i wr => ∃ (k : Nat) (l : List Em4.Tok), k ≤ s.size ∧ i = .int .i64 k ∧ l.length ≤ k ∧ OwnToks wr w.heap.size u l ∧ Below w.heap.size w wr ∧ Hid (Em4.toks L = pre l (Em4.toksF (L.drop k).length k (L.drop k)))) (fun _ i _ => s.size - (intOf i).toNat)
  case atStart => exact ⟨0, [], Nat.zero_le _, rfl, by simp, World.ownsRow_nil _ _ _ _, Below.refl _ _, by rw [pre_nil]; rfl⟩
  case round =>
    obtain ⟨k, l, hk, rfl, hl, hown, hbel, HD⟩ := hrel
    by_cases hlt : k < s.size
    · have hch := HS.out.get k hlt
      obtain ⟨c, hc⟩ : ∃ c, c = L[k]?.getD 0 := ⟨_, rfl⟩
      rw [← hc] at hch
      have hd : L.drop k = c :: L.drop (k + 1) := by rw [hc]; exact drop_step (by rw [← HZ.out]; exact hlt)
      clear hc
      cases hb : Em4.blank c with
      | true =>
        have HV : Hid (Em4.toks L = pre l (Em4.toksF (L.drop (k + 1)).length (k + 1) (L.drop (k + 1)))) := by rw [← Em4.toks_blank hd hb]; exact HD
        have h3 : c = 32 ∨ c = 9 ∨ c = 10 := by simpa [Em4.blank] using hb
        clear hd HD hb
        rcases h3 with h3 | h3 | h3
        · have h3a : (c == 32) = true := by simpa using h3
          clear h3
          go_wp2
          go_roundw
          case rel => exact ⟨k + 1, l, by omega, by go_num, by omega, hown, hbel, HV⟩
          case measure => simp [intOf]; omega
        · have h3a : (c == 32) = false := by rw [h3]; rfl
          have h3b : (c == 9) = true := by simpa using h3
          clear h3
          go_wp2
          go_roundw
          case rel => exact ⟨k + 1, l, by omega, by go_num, by omega, hown, hbel, HV⟩
          case measure => simp [intOf]; omega
        · have h3a : (c == 32) = false := by rw [h3]; rfl
          have h3b : (c == 9) = false := by rw [h3]; rfl
          have h3c : (c == 10) = true := by simpa using h3
          clear h3
          go_wp2
          go_roundw
          case rel => exact ⟨k + 1, l, by omega, by go_num, by omega, hown, hbel, HV⟩
          case measure => simp [intOf]; omega
      | false =>
        obtain ⟨b1, b2, b3⟩ : (c == 32) = false ∧ (c == 9) = false ∧ (c == 10) = false := by
          simp only [Em4.blank, Bool.or_eq_false_iff, decide_eq_false_iff_not] at hb
          simp [hb]
        have HX : Hid (Em.IsStr (s.extract k s.size) (c :: L.drop (k + 1))) := by
          have := HS.out.extract k s.size
          rw [hd, List.take_of_length_le (by have h1 := congrArg List.length hd; have h2 := HZ.out; simp at h1 ⊢; omega)] at this
          exact this
        have hxs : (s.extract k s.size).size ≤ 9223372036854775807 := by
          rw [HX.out.size]
          have h1 := congrArg List.length hd; have h2 := HZ.out; simp at h1 ⊢; omega
        go_wp2_with fail
        refine (rone_any _ _ _ _ HX.out hxs).mono ?_
        rintro e w1 ⟨⟨tk, ts, tn, tm, rfl, hr⟩, hb1⟩
        have hown1 : OwnToks w1 w.heap.size u5 l := owns_below hown hb1
        have hbel1 : Below w.heap.size w w1 := hbel.trans (hb1.mono hbel.size)
        clear hb1 hown hbel
        cases ht : Em4.tokAt (c :: L.drop (k + 1)) with
        | none =>
          rw [ht] at hr
          simp only at hr
          subst hr
          have HV : Hid (Em4.toks L = .error k) := by rw [Hid, HD.out, Em4.toks_none hd hb ht]; rfl
          clear hd HD hb ht
          go_wp2
          go_ret3
          refine ⟨?_, hbel1.alloc hbel1.size _⟩
          rw [HV.out]; rfl
        | some p =>
          obtain ⟨k', t', n', m'⟩ := p
          rw [ht] at hr
          obtain ⟨rfl, hst, rfl, rfl⟩ := hr
          have hm0 := Em4.tokAt_pos ht
          have hm1 := Em4.tokAt_le ht
          rw [← hd] at hm1
          have hm2 : k + m' ≤ s.size := by have := HZ.out; simp at hm1; omega
          have HV : Hid (Em4.toks L = pre (l ++ [⟨tk, t', tn, k⟩]) (Em4.toksF (L.drop (k + m')).length (k + m') (L.drop (k + m')))) := by
            rw [Hid, HD.out, Em4.toks_some hd hb ht, pre_snoc]
          have hts := hst.1
          subst hts
          have hne : ((m' : Int) == 0) = false := by rw [beq_eq_false_iff_ne]; omega
          clear hd HD hb ht hm1 hst HX
          have hown2 : OwnToks (w1.alloc (.cells #[.int .i64 tk, .string (Em.str t'), .int .i64 tn, .int .i64 (k : Int)] 49)) w.heap.size u5 l := hown1.alloc _
          have hbel2 := hbel1.alloc hbel1.size (.cells #[.int .i64 tk, .string (Em.str t'), .int .i64 tn, .int .i64 (k : Int)] 49)
          clear hown1 hbel1
          go_wp2_with (at_builtin; refine wpList_app_tok rfl _ _ rfl w.heap.size _ l rfl hown2 ⟨tk, t', tn, k⟩ _ (by simp) rfl (by omega) hbel2.size ?_; intro v2 w2 o2 hb2; have hbel3 := hbel2.trans hb2; clear hown2 hbel2 hb2)
          go_roundw
          case rel => exact ⟨k + m', l ++ [⟨tk, t', tn, k⟩], hm2, by go_num, by simp; omega, o2, hbel3, HV⟩
          case measure => simp [intOf]; omega
    · have hke : k = L.length := by have := HZ.out; omega
      have HV : Hid (Em4.toks L = .ok (l ++ [⟨5, [], 0, s.size⟩])) := by rw [Hid, HD.out, Em4.toks_end hke, HZ.out]; rfl
      clear HD hke
      have hown2 : OwnToks wr w.heap.size u5 l := hown
      go_wp2_with (at_builtin; refine wpList_app_tok rfl _ _ rfl w.heap.size _ l rfl hown2 ⟨5, [], 0, s.size⟩ _ (by simp) rfl (by omega) hbel.size ?_; intro v2 w2 o2 hb2; have hbel3 := hbel.trans hb2; clear hown2 hbel hb2)
      go_ret3
      refine ⟨?_, hbel3⟩
      rw [HV.out]
      exact ⟨_, rfl, o2⟩
end Go.Proofs.YtoekhejpompjlaaDoor

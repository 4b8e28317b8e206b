/- What tree's isToken, holds and partsOf answer. -/
import Derived.Test.YtoekhejpompjlaaDoorKnown4
import Derived.Test.YtoekhejpompjlaaDoorPureA
import Derived.Test.YtoekhejpompjlaaDoorRTreeM1
namespace Go.Proofs.YtoekhejpompjlaaDoor
open Go.RowKit
set_option linter.unusedSimpArgs false

set_option maxRecDepth 100000 in
set_option maxHeartbeats 2000000 in
theorem isToken_any (s t : ByteArray) (L T : List Int) (k : Int) (w : World) (hs : Em.IsStr s L) (ht : Em.IsStr t T) (hg : IsSigns w) :
    Calls Tryd.prog 64 #[.string s, .int .i64 k, .string t] w fun e w' => e = .returned (.bool (Em5.isTok L k T)) ∧ Below w.heap.size w w' := by
  by_cases hz : 2000 < s.size
  · have HF : Hid (Em5.isTok L k T = false) := by rw [Hid, Em5.isTok, if_pos (by rw [← hs.size]; exact hz)]
    have HZ : Hid (2000 < s.size) := hz
    clear hs ht hg hz
    go_enter Tryd.func64, Tryd.ntmps64
    go_wp2_with fail
    refine (ltokens_great _ _ HZ.out).mono ?_
    rintro e w1 ⟨rfl, rfl⟩
    go_wp2
    go_ret
    exact ⟨by rw [HF.out]; rfl, Below.refl _ _⟩
  · have HE : Hid (¬ 2000 < L.length) := by rw [Hid, ← hs.size]; exact hz
    have HS : Hid (Em.IsStr s L ∧ s.size ≤ 2000 ∧ IsSigns w) := ⟨hs, by omega, hg⟩
    have HT : Hid (Em.IsStr t T) := ht
    have HB : Hid (Em4.Byt L) := hs.2
    clear hs ht hg hz
    go_enter Tryd.func64, Tryd.ntmps64
    go_wp2_with fail
    refine (ltokens_any _ L _ HS.out.1 HS.out.2.1 HS.out.2.2).mono ?_
    rintro e w1 ⟨hgot, hb1⟩
    cases hx : Em4.toks L with
    | error i =>
      rw [hx] at hgot
      have he : e = .returned (.tuple #[.slice none 0 0, .int .i64 i, .int .i64 2]) := hgot
      subst he
      have HF : Hid (Em5.isTok L k T = false) := by rw [Hid, Em5.isTok, if_neg HE.out, hx]
      clear hx
      clear hgot HE
      go_wp2
      go_ret
      exact ⟨by rw [HF.out]; rfl, hb1⟩
    | ok l =>
      rw [hx] at hgot
      obtain ⟨v, rfl, hown⟩ := hgot
      have hby := Em4.toks_byt HB.out hx
      by_cases h2 : l.length = 2
      · obtain ⟨t1, t2, rfl⟩ : ∃ x y, l = [x, y] := by
          match l, h2 with
          | [x, y], _ => exact ⟨x, y, rfl⟩
        have HF : Hid (Em5.isTok L k T = (decide (t1.kind = k) && decide (t1.text = T))) := by rw [Hid, Em5.isTok, if_neg HE.out, hx]
        obtain ⟨g, cap, rfl, -, -, -, -, hc⟩ := hown.at (by simp)
        obtain ⟨c0, c1, -, -⟩ := hc 0 t1 rfl
        simp only [Nat.zero_mul, Nat.zero_add] at c0 c1
        have hq : ((Em.str t1.text).toList == t.toList) = decide (t1.text = T) := (Em.isStr_str (hby t1 (by simp))).beq HT.out
        have hk : (t1.kind == k) = decide (t1.kind = k) := rfl
        obtain ⟨b1, hb⟩ : ∃ b1, b1 = decide (t1.kind = k) := ⟨_, rfl⟩
        obtain ⟨b2, hb'⟩ : ∃ b2, b2 = decide (t1.text = T) := ⟨_, rfl⟩
        rw [← hb] at hk HF
        rw [← hb'] at hq HF
        have hl2 : [t1, t2].length = 2 := rfl
        rw [hl2]
        clear hb hb' HE hown hc hby hx h2 hl2
        cases b1 with
        | false =>
          go_wp2
          go_ret
          exact ⟨by rw [HF.out]; rfl, hb1⟩
        | true =>
          cases b2 with
          | false =>
            go_wp2
            go_ret
            exact ⟨by rw [HF.out]; rfl, hb1⟩
          | true =>
            go_wp2
            go_ret
            exact ⟨by rw [HF.out]; rfl, hb1⟩
      · have HF : Hid (Em5.isTok L k T = false) := by
          rw [Hid, Em5.isTok, if_neg HE.out, hx]
          match l, h2 with
          | [], _ => rfl
          | [_], _ => rfl
          | [_, _], h => simp at h
          | _ :: _ :: _ :: _, _ => rfl
        have hl0 := Em4.toks_len hx
        have hsz : l.length ≤ 2001 := by have := HS.out.1.size; have := HS.out.2.1; omega
        have hne : ((l.length : Int) == 2) = false := by rw [beq_eq_false_iff_ne]; omega
        obtain ⟨a, c, rfl⟩ : ∃ a c, v = .slice a l.length c := by
          rcases hown.2 with ⟨h1, h2⟩ | ⟨g, gc, cur, h1, -⟩
          · exact ⟨none, 0, by rw [h1, h2]⟩
          · exact ⟨_, _, h1⟩
        clear HE hown hby hx h2 hl0
        go_wp2
        go_ret
        exact ⟨by rw [HF.out]; rfl, hb1⟩

theorem isStr_quoted {s : ByteArray} {L : List Int} (h : Em.IsStr s L) : Em.IsStr (Em.str (34 :: (L ++ [34]))) (34 :: (L ++ [34])) := by
  refine Em.isStr_str ?_
  intro x hx
  simp only [List.mem_cons, List.mem_append, List.not_mem_nil, or_false] at hx
  rcases hx with rfl | hx | rfl
  · omega
  · exact h.2 x hx
  · omega

set_option maxRecDepth 100000 in
set_option maxHeartbeats 2000000 in
theorem holds_any (L : List Int) (k : Int) (w : World) (hL : Em5.Txt L) (hg : IsSigns w) :
    Calls Tryd.prog 58 #[.string (Em.str L), .int .i64 k] w fun e w' => e = .returned (.bool (Em5.hold L k)) ∧ Below w.heap.size w w' := by
  have hs := Em.isStr_str hL.1
  have HS : Hid (Em.IsStr (Em.str L) L ∧ IsSigns w) := ⟨hs, hg⟩
  by_cases h1 : k = 1
  · subst h1
    have HE : Hid (Em5.hold L 1 = Em5.isTok L 1 L) := by rw [Hid, Em5.isTok_name]; rfl
    clear hs hg hL
    go_enter Tryd.func58, Tryd.ntmps58
    go_wp2_with fail
    refine (isToken_any _ _ L L 1 _ HS.out.1 HS.out.1 HS.out.2).mono ?_
    rintro e w1 ⟨rfl, hb1⟩
    go_wp2
    go_ret
    exact ⟨by rw [HE.out]; rfl, hb1⟩
  · have h1' : (k == 1) = false := by simpa using h1
    by_cases h2 : k = 2
    · subst h2
      have HE : Hid (Em5.hold L 2 = Em5.isTok (34 :: (L ++ [34])) 3 L) := by rw [Hid, Em5.isTok_text]; rfl
      have hsz : (Em.str L).size = L.length := hs.size
      by_cases h40 : L.length ≤ 40
      · have h40' : ¬ 40 < L.length := by omega
        have e1 : (⟨#[34]⟩ : ByteArray) ++ Em.str L ++ ⟨#[34]⟩ = Em.str (34 :: (L ++ [34])) := by
          have e2 : (⟨#[34]⟩ : ByteArray) = Em.str [34] := rfl
          rw [e2, str_app, str_app]; rfl
        have HQ : Hid (Em.IsStr (Em.str (34 :: (L ++ [34]))) (34 :: (L ++ [34]))) := isStr_quoted hs
        clear hs hg hL
        go_enter Tryd.func58, Tryd.ntmps58
        go_wp2_with fail
        refine (isToken_any _ _ _ L 3 _ HQ.out HS.out.1 HS.out.2).mono ?_
        rintro e w1 ⟨rfl, hb1⟩
        go_wp2
        go_ret
        exact ⟨by rw [HE.out]; rfl, hb1⟩
      · have h40' : 40 < L.length := by omega
        have h40i : decide ((L.length : Int) ≤ 40) = false := by simp; omega
        have HF : Hid (Em5.hold L 2 = false) := by
          rw [Hid]
          show Em4.textOk L = false
          simp only [Em4.textOk, Bool.and_eq_false_iff, decide_eq_false_iff_not]
          exact Or.inr h40
        clear hs hg hL HE h40
        go_enter Tryd.func58, Tryd.ntmps58
        go_wp2
        go_ret
        exact ⟨by rw [HF.out]; rfl, Below.refl _ _⟩
    · have h2' : (k == 2) = false := by simpa using h2
      have HE : Hid (Em5.hold L k = decide (L = [])) := by rw [Hid, Em5.hold, if_neg h1, if_neg h2]
      have hq : ((Em.str L).toList == []) = decide (L = []) := Em5.str_eq hL.1 []
      obtain ⟨b, hb⟩ : ∃ b, b = decide (L = []) := ⟨_, rfl⟩
      rw [← hb] at hq HE
      clear hs hg hL hb h1 h2
      go_enter Tryd.func58, Tryd.ntmps58
      go_wp2
      go_ret
      exact ⟨by rw [HE.out]; rfl, Below.refl _ _⟩

/-- What a node of an op has, as the program holds it. -/
def partsV (op : List Int) : Value := .agg #[.int .i64 (Em5.pName op), .int .i64 (Em5.pArg op), .int .i64 (Em5.pMost op), .int .i64 (Em5.pKids op)]
theorem parts_none {op : List Int} (h : Em5.kidsN op = -1) : Em5.pName op = 0 ∧ Em5.pArg op = 0 ∧ Em5.pMost op = 0 ∧ Em5.pKids op = 0 ∧ Em5.pOk op = false := by
  have hn : ∀ x, Em5.kidsN x ≠ -1 → op ≠ x := fun x hx e => hx (e ▸ h)
  unfold Em5.pName Em5.pArg Em5.pMost Em5.pKids Em5.pOk
  have a1 : ¬ (op = Em5.oVar ∨ op = Em5.oFun ∨ op = Em5.oLet ∨ op = Em5.oTry ∨ op = Em5.oRec ∨ op = Em5.oMatch) := by
    rintro (e | e | e | e | e | e)
    · exact hn Em5.oVar (by decide) e
    · exact hn Em5.oFun (by decide) e
    · exact hn Em5.oLet (by decide) e
    · exact hn Em5.oTry (by decide) e
    · exact hn Em5.oRec (by decide) e
    · exact hn Em5.oMatch (by decide) e
  rw [if_neg a1, if_neg (hn Em5.oStr (by decide)), if_neg (fun e => a1 (e.elim (fun e => .inr (.inr (.inr (.inr (.inl e))))) (fun e => .inr (.inr (.inr (.inr (.inr e)))))) : ¬ (op = Em5.oRec ∨ op = Em5.oMatch)), if_neg (hn Em5.oInt (by decide)), if_neg (hn Em5.oBool (by decide)), if_pos h, h]
  simp

set_option maxRecDepth 100000 in
set_option maxHeartbeats 4000000 in
theorem partsOf_any (op : List Int) (w : World) (h : ∀ x ∈ op, 0 ≤ x ∧ x ≤ 255) :
    Calls Tryd.prog 57 #[.string (Em.str op)] w fun e w' => e = .returned (.tuple #[partsV op, .bool (Em5.pOk op)]) ∧ Below w.heap.size w w' := by
  have hq := Em5.str_eq h
  have HK : Hid (Em5.kidsN op = -1 → Em5.pName op = 0 ∧ Em5.pArg op = 0 ∧ Em5.pMost op = 0 ∧ Em5.pKids op = 0 ∧ Em5.pOk op = false) := parts_none
  go_enter Tryd.func57, Tryd.ntmps57
  go_wp2
  all_goals
    refine bodyPost_ret (v := .tuple #[partsV op, .bool (Em5.pOk op)]) ?_ rfl ⟨rfl, (Below.refl _ _).alloc (Nat.le_refl _) _⟩
    first
      | (clear hq HK h; subst_vars; simp [results, Tryd.results57, go_sem]; exact ⟨rfl, rfl⟩)
      | (obtain ⟨p1, p2, p3, p4, p5⟩ := HK.out (by simp only [kids_ops]; simp [*]); simp [results, Tryd.results57, go_sem, partsV, p1, p2, p3, p4, p5])

end Go.Proofs.YtoekhejpompjlaaDoor

/- What 'deep', 'node', 'begins' of the document's own parser answer; what its greater methods are to answer. -/
import Derived.Test.YtoekhejpompjlaaDoorRPa1
import Derived.Test.YtoekhejpompjlaaDoorPureB
import Derived.Test.YtoekhejpompjlaaDoorPureA
namespace Go.Proofs.YtoekhejpompjlaaDoor
open Go.RowKit Go.Em5 Go.Em6
set_option linter.unusedSimpArgs false

def deepS (d : Nat) (s : St) : St := if 40 ≤ d then failS 3 s else s

set_option maxRecDepth 100000 in
set_option maxHeartbeats 1000000 in
theorem pdeep_any (pb tb : Nat) (s : St) (d : Nat) (w : World) (h : IsSt w pb tb s) (hd : d ≤ 41) :
    Calls Tryd.prog 33 #[PP pb, .int .i64 d] w fun e w' => e = .returned (.tuple #[]) ∧ IsSt w' pb tb (deepS d s) ∧ Bes pb w w' := by
  have HH : Hid (IsSt w pb tb s) := h
  clear h
  by_cases h40 : 40 ≤ d
  · have HE : Hid (deepS d s = failS 3 s) := by rw [Hid, deepS, if_pos h40]
    rw [HE.out]
    go_enter Tryd.func33, Tryd.ntmps33
    go_wp2_with fail
    refine (pfail_any pb tb s _ 3 HH.out (by omega) (by omega)).mono ?_
    rintro e w2 ⟨rfl, h2, hb2⟩
    go_wp2_with fail
    (try simp only [Exit.inBlock, Exit.then]); refine bodyPost_end (results_none rfl _ _ _) rfl ?_
    exact ⟨rfl, h2, hb2⟩
  · have HE : Hid (deepS d s = s) := by rw [Hid, deepS, if_neg h40]
    rw [HE.out]
    go_enter Tryd.func33, Tryd.ntmps33
    go_wp2_with fail
    (try simp only [Exit.inBlock, Exit.then]); refine bodyPost_end (results_none rfl _ _ _) rfl ?_
    exact ⟨rfl, HH.out, Bes.refl _ _⟩

set_option maxRecDepth 100000 in
set_option maxHeartbeats 1000000 in
theorem pnode_any (op : ByteArray) (p : Int) (a : Option Addr) (n c : Nat) (w : World) :
    Calls Tryd.prog 38 #[.string op, .int .i64 p, .slice a n c] w fun e w' => e = .returned (.agg #[.string op, .string (Em.str []), .string (Em.str []), .int .i64 0, .int .i64 p, .slice a n c]) ∧ Below w.heap.size w w' := by
  go_enter Tryd.func38, Tryd.ntmps38
  go_wp2
  refine bodyPost_ret (v := .agg #[.string op, .string (Em.str []), .string (Em.str []), .int .i64 0, .int .i64 p, .slice a n c]) (by simp [results, Tryd.results38, go_sem]; rfl) rfl ⟨rfl, (Below.refl _ _).alloc (Nat.le_refl _) _⟩

theorem beginsS_now (s : St) : beginsS s = (let t := nowS s; if t.kind = 4 then (decide (t.text = [116, 114, 117, 101]) || (decide (t.text = [102, 97, 108, 115, 101]) || (decide (t.text = [33]) || (decide (t.text = [40]) || decide (t.text = [91]))))) else !decide (t.kind = 5)) := by
  cases s with
  | error e => simp [beginsS, nowS]
  | ok L => cases L with
    | nil => simp [beginsS, nowS, begins]
    | cons t r => rfl

set_option maxRecDepth 100000 in
set_option maxHeartbeats 2000000 in
theorem pbegins_any (pb tb : Nat) (s : St) (w : World) (h : IsSt w pb tb s) :
    Calls Tryd.prog 90 #[PP pb] w fun e w' => e = .returned (.bool (beginsS s)) ∧ Below w.heap.size w w' := by
  have HH : Hid (IsSt w pb tb s) := h
  have hq := Em5.str_eq h.now.1.1
  rw [beginsS_now]
  obtain ⟨t, htd⟩ : ∃ t, t = nowS s := ⟨_, rfl⟩
  have HT : Hid (nowS s = t) := htd.symm
  simp only
  rw [← htd] at hq ⊢
  clear htd h
  by_cases h4 : t.kind = 4
  · have h4' : (t.kind == 4) = true := by simpa using h4
    rw [if_pos h4]
    have q1 : ((Em.str t.text).toList == [116, 114, 117, 101]) = decide (t.text = [116, 114, 117, 101]) := hq [116, 114, 117, 101]
    have q2 : ((Em.str t.text).toList == [102, 97, 108, 115, 101]) = decide (t.text = [102, 97, 108, 115, 101]) := hq [102, 97, 108, 115, 101]
    have q3 : ((Em.str t.text).toList == [33]) = decide (t.text = [33]) := hq [33]
    have q4 : ((Em.str t.text).toList == [40]) = decide (t.text = [40]) := hq [40]
    have q5 : ((Em.str t.text).toList == [91]) = decide (t.text = [91]) := hq [91]
    generalize decide (t.text = [116, 114, 117, 101]) = b1 at q1 ⊢
    generalize decide (t.text = [102, 97, 108, 115, 101]) = b2 at q2 ⊢
    generalize decide (t.text = [33]) = b3 at q3 ⊢
    generalize decide (t.text = [40]) = b4 at q4 ⊢
    generalize decide (t.text = [91]) = b5 at q5 ⊢
    clear h4 hq
    go_enter Tryd.func90, Tryd.ntmps90
    go_wp2_with fail
    refine (pnow_any pb tb s _ HH.out).mono ?_
    rintro e w1 ⟨rfl, hb1⟩
    rw [HT.out]
    simp only [Em6.tokV]
    have hb2 := hb1.alloc hb1.size (.cells #[.int .i64 t.kind, .string (Em.str t.text), .int .i64 t.num, .int .i64 t.pos] 49)
    cases b1 <;> cases b2 <;> cases b3 <;> cases b4 <;>
      (go_wp2_with fail; go_ret; exact ⟨rfl, hb2⟩)
  · have h4' : (t.kind == 4) = false := by simpa using h4
    rw [if_neg h4]
    have hq5 : (t.kind != 5) = (!decide (t.kind = 5)) := rfl
    clear h4 hq
    go_enter Tryd.func90, Tryd.ntmps90
    go_wp2_with fail
    refine (pnow_any pb tb s _ HH.out).mono ?_
    rintro e w1 ⟨rfl, hb1⟩
    rw [HT.out]
    simp only [Em6.tokV]
    have hb2 := hb1.alloc hb1.size (.cells #[.int .i64 t.kind, .string (Em.str t.text), .int .i64 t.num, .int .i64 t.pos] 49)
    go_wp2_with fail
    go_ret
    refine ⟨?_, hb2⟩
    first | rfl | (simp only [hq5]; rfl)

/-- What a greater method hands back: an expression and a state that fit what is had of tokens. -/
def Post (F : List Em4.Tok → R) (pb tb : Nat) (s : St) (w : World) (e : Ending) (w' : World) : Prop :=
  ∃ v n s', e = .returned v ∧ NdB w.heap.size w' n v ∧ IsSt w' pb tb s' ∧ Bes pb w w' ∧ Fits (thn s F) n s'
/-- The method number k, at the depth d, does F. -/
def Does (k d : Nat) (F : List Em4.Tok → R) : Prop := ∀ (w : World) (pb tb : Nat) (s : St), IsSt w pb tb s → Calls Tryd.prog k #[PP pb, .int .i64 d] w (Post F pb tb s w)
end Go.Proofs.YtoekhejpompjlaaDoor

/- What the document's own Has, Binds, free and Free answer. -/
import Derived.Test.YtlniokcekjemdaaDoorStrs
import Derived.Test.YtlniokcekjemdaaDoorMath5
import Derived.Deep.QuietTactic
import Derived.BigQuiet
import Derived.Deep.RegionHeldLaw
import Derived.Deep.DeepCutAuto
import Derived.Deep.CutBlock
namespace Go.Proofs.YtlniokcekjemdaaDoor
open Go.RowKit
set_option linter.unusedSimpArgs false

set_option maxRecDepth 100000 in
set_option maxHeartbeats 1000000 in
theorem rHas_any (v : Value) (l : List (List Int)) (x : List Int) (w : World) (hv : IsStrs w v l) (hx : Em5.Txt x) :
    Calls Tryd.prog 36 #[v, .string (Em.str x)] w fun e w' => e = .returned (.bool (decide (x ∈ l))) ∧ w' = w := by
  have hlen := hv.len
  by_cases hp : 0 < l.length
  · obtain ⟨b, off, cap, rfl, -, -, -, hc⟩ := hv.plain hp
    have HC : Hid (∀ j t, l[j]? = some t → w.cell? ⟨b, off + j, none⟩ = some (.string (Em.str t))) := hc
    have HT : Hid (∀ t ∈ l, Em5.Txt t) := hv.txt
    clear hc hv
    go_enter Tryd.func36, Tryd.ntmps36
    go_wp2
    go_loop [5] (fun i => ∃ k : Nat, k ≤ l.length ∧ i = .int .i64 k ∧ Hid (∀ j t, j < k → l[j]? = some t → t ≠ x)) (fun i => l.length - (intOf i).toNat)
    case atStart => exact ⟨0, Nat.zero_le _, rfl, fun j t h => by omega⟩
    case round =>
      obtain ⟨k, hk, rfl, HD⟩ := hrel
      by_cases hlt : k < l.length
      · obtain ⟨t, ht⟩ : ∃ t, l[k]? = some t := ⟨_, List.getElem?_eq_getElem hlt⟩
        have hcell := HC.out k t ht
        have hq := (Em.isStr_str (HT.out t (List.mem_of_getElem? ht)).1).beq (Em.isStr_str hx.1)
        have HTT : Hid (l[k]? = some t) := ht
        clear ht
        by_cases he : t = x
        · rw [decide_eq_true he] at hq
          have HF : Hid (decide (x ∈ l) = true) := decide_eq_true (by rw [← he]; exact List.mem_of_getElem? HTT.out)
          clear he
          go_wp2
          go_ret
          exact ⟨by rw [HF.out]; rfl, rfl⟩
        · rw [decide_eq_false he] at hq
          have HE : Hid (t ≠ x) := he
          clear he
          go_wp2
          go_round
          case rel =>
            refine ⟨k + 1, by omega, by go_num, fun j t' hj ht' => ?_⟩
            by_cases hjk : j = k
            · subst hjk; rw [HTT.out] at ht'; cases ht'; exact HE.out
            · exact HD.out j t' (by omega) ht'
          case measure => simp [intOf]; omega
      · have HF : Hid (decide (x ∈ l) = false) := by
          refine decide_eq_false fun hm => ?_
          obtain ⟨j, hj, he⟩ := List.getElem_of_mem hm
          exact HD.out j x (by omega) (by rw [List.getElem?_eq_getElem hj, he]) rfl
        go_wp2
        go_ret
        exact ⟨by rw [HF.out]; rfl, rfl⟩
  · have hl0 : l = [] := List.length_eq_zero_iff.1 (by omega)
    subst hl0
    obtain ⟨a, cap, rfl⟩ := hv.empty
    clear hv
    go_enter Tryd.func36, Tryd.ntmps36
    go_wp2
    refine wp_loop_rounds 1 ?_
    rw [rounds_succ]
    go_wp2
    go_ret
    exact ⟨rfl, rfl⟩
end Go.Proofs.YtlniokcekjemdaaDoor

namespace Go.Proofs.YtlniokcekjemdaaDoor
open Go.RowKit
set_option linter.unusedSimpArgs false

theorem binds_ops (op nm ar : List Int) (i : Nat) : Em5.bindsL op nm ar i = if op = [102, 117, 110] ∨ (op = [108, 101, 116] ∧ i = 1) ∨ (op = [116, 114, 121] ∧ i = 1) ∨ (op = [114, 101, 99] ∧ i = 1) then [nm]
  else if (op = [114, 101, 99] ∧ i = 0) ∨ (op = [109, 97, 116, 99, 104] ∧ i = 2) then [nm, ar] else [] := rfl

set_option maxRecDepth 100000 in
set_option maxHeartbeats 4000000 in
theorem rBinds_any (T : Em5.Nd) (v : Value) (i : Nat) (w : World) (hv : Em5.IsNd w T v) :
    Calls Tryd.prog 37 #[v, .int .i64 i] w fun e w' => ∃ u, e = .returned u ∧ OwnStrs w' w.heap.size u (Em5.bindsL T.op T.nm T.ar i) ∧ Below w.heap.size w w' := by
  obtain ⟨op, nm, ar, n, p, l⟩ := T
  unfold Em5.IsNd at hv
  obtain ⟨a, cap, rfl, t1, t2, t3, -⟩ := hv
  simp only [Em5.Nd.op, Em5.Nd.nm, Em5.Nd.ar]
  have hq := Em5.str_eq t1.1
  have hbel : Below w.heap.size w (w.alloc (.cells #[.string (Em.str op), .string (Em.str nm), .string (Em.str ar), .int .i64 n, .int .i64 p, .slice a l.length cap] 24)) := (Below.refl _ _).alloc (Nat.le_refl _) _
  clear t1 t2 t3
  have fin1 : ∀ o, Em5.bindsL op nm ar i = [nm] → OwnStrs ((w.alloc o).alloc (.cells #[.string (Em.str nm)] 9)) w.heap.size (.slice (some ⟨w.heap.size + 1, 0, none⟩) 1 1) (Em5.bindsL op nm ar i) := fun o h => by
    rw [h]; exact own_s1 _ (by simp) (by simp) nm
  have fin2 : ∀ o, Em5.bindsL op nm ar i = [nm, ar] → OwnStrs ((w.alloc o).alloc (.cells #[.string (Em.str nm), .string (Em.str ar)] 9)) w.heap.size (.slice (some ⟨w.heap.size + 1, 0, none⟩) 2 2) (Em5.bindsL op nm ar i) := fun o h => by
    rw [h]; exact own_s2 _ (by simp) (by simp) nm ar
  have fin0 : ∀ w', Em5.bindsL op nm ar i = [] → OwnStrs w' w.heap.size (.slice none 0 0) (Em5.bindsL op nm ar i) := fun w' h => by
    rw [h]; exact World.ownsRow_nil _ _ _ _
  have bo := binds_ops op nm ar i
  have F1 : Hid (∀ o, Em5.bindsL op nm ar i = [nm] → OwnStrs ((w.alloc o).alloc (.cells #[.string (Em.str nm)] 9)) w.heap.size (.slice (some ⟨w.heap.size + 1, 0, none⟩) 1 1) (Em5.bindsL op nm ar i)) := fin1
  have F2 : Hid (∀ o, Em5.bindsL op nm ar i = [nm, ar] → OwnStrs ((w.alloc o).alloc (.cells #[.string (Em.str nm), .string (Em.str ar)] 9)) w.heap.size (.slice (some ⟨w.heap.size + 1, 0, none⟩) 2 2) (Em5.bindsL op nm ar i)) := fin2
  have F0 : Hid (∀ w', Em5.bindsL op nm ar i = [] → OwnStrs w' w.heap.size (.slice none 0 0) (Em5.bindsL op nm ar i)) := fin0
  have BO : Hid (Em5.bindsL op nm ar i = if op = [102, 117, 110] ∨ (op = [108, 101, 116] ∧ i = 1) ∨ (op = [116, 114, 121] ∧ i = 1) ∨ (op = [114, 101, 99] ∧ i = 1) then [nm]
    else if (op = [114, 101, 99] ∧ i = 0) ∨ (op = [109, 97, 116, 99, 104] ∧ i = 2) then [nm, ar] else []) := bo
  clear fin1 fin2 fin0 bo
  obtain ⟨x0, hx0⟩ : ∃ x, x = ((i : Int) == 0) := ⟨_, rfl⟩
  obtain ⟨x1, hx1⟩ : ∃ x, x = ((i : Int) == 1) := ⟨_, rfl⟩
  obtain ⟨x2, hx2⟩ : ∃ x, x = ((i : Int) == 2) := ⟨_, rfl⟩
  have i0 : (x0 = true ↔ i = 0) := by rw [hx0, beq_iff_eq]; omega
  have i1 : (x1 = true ↔ i = 1) := by rw [hx1, beq_iff_eq]; omega
  have i2 : (x2 = true ↔ i = 2) := by rw [hx2, beq_iff_eq]; omega
  have I : Hid ((x0 = true ↔ i = 0) ∧ (x1 = true ↔ i = 1) ∧ (x2 = true ↔ i = 2)) := ⟨i0, i1, i2⟩
  have y0 := hx0.symm
  have y1 := hx1.symm
  have y2 := hx2.symm
  clear i0 i1 i2 hx0 hx1 hx2
  by_cases o1 : op = [102, 117, 110]
  · subst o1
    have HR : Hid (Em5.bindsL [102, 117, 110] nm ar i = [nm]) := by rw [Hid, BO.out, if_pos (Or.inl rfl)]
    go_enter Tryd.func37, Tryd.ntmps37
    go_wp2
    go_ret
    exact ⟨_, rfl, F1.out _ HR.out, hbel.alloc hbel.size _⟩
  by_cases o2 : op = [108, 101, 116]
  · subst o2
    cases x1 with
    | true =>
      have HR : Hid (Em5.bindsL [108, 101, 116] nm ar i = [nm]) := by rw [Hid, BO.out, if_pos (Or.inr (Or.inl ⟨rfl, I.out.2.1.1 rfl⟩))]
      clear o1
      go_enter Tryd.func37, Tryd.ntmps37
      go_wp2
      go_ret
      exact ⟨_, rfl, F1.out _ HR.out, hbel.alloc hbel.size _⟩
    | false =>
      have hn : ¬ i = 1 := fun h => by have := I.out.2.1.2 h; cases this
      have HR : Hid (Em5.bindsL [108, 101, 116] nm ar i = []) := by rw [Hid, BO.out]; simp [hn]
      clear o1 hn
      go_enter Tryd.func37, Tryd.ntmps37
      go_wp2
      go_ret
      exact ⟨_, rfl, F0.out _ HR.out, hbel⟩
  by_cases o3 : op = [116, 114, 121]
  · subst o3
    cases x1 with
    | true =>
      have HR : Hid (Em5.bindsL [116, 114, 121] nm ar i = [nm]) := by rw [Hid, BO.out, if_pos (Or.inr (Or.inr (Or.inl ⟨rfl, I.out.2.1.1 rfl⟩)))]
      clear o1 o2
      go_enter Tryd.func37, Tryd.ntmps37
      go_wp2
      go_ret
      exact ⟨_, rfl, F1.out _ HR.out, hbel.alloc hbel.size _⟩
    | false =>
      have hn : ¬ i = 1 := fun h => by have := I.out.2.1.2 h; cases this
      have HR : Hid (Em5.bindsL [116, 114, 121] nm ar i = []) := by rw [Hid, BO.out]; simp [hn]
      clear o1 o2 hn
      go_enter Tryd.func37, Tryd.ntmps37
      go_wp2
      go_ret
      exact ⟨_, rfl, F0.out _ HR.out, hbel⟩
  by_cases o4 : op = [114, 101, 99]
  · subst o4
    cases x1 with
    | true =>
      have HR : Hid (Em5.bindsL [114, 101, 99] nm ar i = [nm]) := by rw [Hid, BO.out, if_pos (Or.inr (Or.inr (Or.inr ⟨rfl, I.out.2.1.1 rfl⟩)))]
      clear o1 o2 o3
      go_enter Tryd.func37, Tryd.ntmps37
      go_wp2
      go_ret
      exact ⟨_, rfl, F1.out _ HR.out, hbel.alloc hbel.size _⟩
    | false =>
      have hn : ¬ i = 1 := fun h => by have := I.out.2.1.2 h; cases this
      cases x0 with
      | true =>
        have h0 := I.out.1.1 rfl
        have HR : Hid (Em5.bindsL [114, 101, 99] nm ar i = [nm, ar]) := by rw [Hid, BO.out, h0]; simp
        clear o1 o2 o3 hn h0
        go_enter Tryd.func37, Tryd.ntmps37
        go_wp2
        go_ret
        exact ⟨_, rfl, F2.out _ HR.out, hbel.alloc hbel.size _⟩
      | false =>
        have h0 : ¬ i = 0 := fun h => by have := I.out.1.2 h; cases this
        have HR : Hid (Em5.bindsL [114, 101, 99] nm ar i = []) := by rw [Hid, BO.out]; simp [hn, h0]
        clear o1 o2 o3 hn h0
        go_enter Tryd.func37, Tryd.ntmps37
        go_wp2
        go_ret
        exact ⟨_, rfl, F0.out _ HR.out, hbel⟩
  by_cases o5 : op = [109, 97, 116, 99, 104]
  · subst o5
    cases x2 with
    | true =>
      have h2 := I.out.2.2.1 rfl
      have HR : Hid (Em5.bindsL [109, 97, 116, 99, 104] nm ar i = [nm, ar]) := by rw [Hid, BO.out, h2]; simp
      clear o1 o2 o3 o4 h2
      go_enter Tryd.func37, Tryd.ntmps37
      go_wp2
      go_ret
      exact ⟨_, rfl, F2.out _ HR.out, hbel.alloc hbel.size _⟩
    | false =>
      have h2 : ¬ i = 2 := fun h => by have := I.out.2.2.2 h; cases this
      have HR : Hid (Em5.bindsL [109, 97, 116, 99, 104] nm ar i = []) := by rw [Hid, BO.out]; simp [h2]
      clear o1 o2 o3 o4 h2
      go_enter Tryd.func37, Tryd.ntmps37
      go_wp2
      go_ret
      exact ⟨_, rfl, F0.out _ HR.out, hbel⟩
  have HR : Hid (Em5.bindsL op nm ar i = []) := by rw [Hid, BO.out]; simp [o1, o2, o3, o4, o5]
  go_enter Tryd.func37, Tryd.ntmps37
  go_wp2
  go_ret
  exact ⟨_, rfl, F0.out _ HR.out, hbel⟩
end Go.Proofs.YtlniokcekjemdaaDoor

namespace Go.Proofs.YtlniokcekjemdaaDoor
open Go.RowKit
set_option linter.unusedSimpArgs false

theorem lit_grown {w w' : World} {row : Option Nat} {g : Nat} {x : List Int} (hg : w.grownBy w' row) (hc : w.cell? ⟨g, 0, none⟩ = some (.string (Em.str x))) (hne : some g ≠ row) (hx : Em5.Txt x) : IsStrs w' (.slice (some ⟨g, 0, none⟩) 1 1) [x] := by
  have h := hg.cell (a := ⟨g, 0, none⟩) hc hne
  refine ⟨some ⟨g, 0, none⟩, 1, rfl, by simp, by simp [maxLen], (fun h => by cases h), by simpa using hx, fun j t hj => ⟨_, rfl, ?_⟩⟩
  cases j with
  | zero => simp at hj; subst hj; simpa [Addr.add] using h
  | succ j => simp at hj
theorem lit_new (w : World) (x : List Int) (hx : Em5.Txt x) : IsStrs (w.alloc (.cells #[.string (Em.str x)] 9)) (.slice (some ⟨w.heap.size, 0, none⟩) 1 1) [x] :=
  (own_s1 w rfl (Nat.le_refl _) x).is (by simpa using hx)
theorem strs_none {w : World} (a : Option Addr) (cap : Nat) (h1 : cap ≤ maxLen) (h2 : a = none → cap = 0) : IsStrs w (.slice a 0 cap) [] :=
  ⟨a, cap, rfl, by simp, h1, h2, by simp, by simp⟩
theorem strs_app {a b : List (List Int)} (ha : ∀ x ∈ a, Em5.Txt x) (hb : ∀ x ∈ b, Em5.Txt x) : ∀ x ∈ [] ++ a ++ b, Em5.Txt x := by
  intro x hx
  simp only [List.nil_append, List.mem_append] at hx
  rcases hx with hx | hx
  · exact ha x hx
  · exact hb x hx
theorem owns_grown {w w' : World} {B : Nat} {v : Value} {l : List (List Int)} {row : Option Nat} (h : OwnStrs w B v l) (ht : ∀ x ∈ l, Em5.Txt x) (hg : w.grownBy w' row) (hne : ∀ k, v.ownBlock = some k → some k ≠ row) : IsStrs w' v l := by
  have h2 : OwnStrs w' B v l := by
    have hlt := World.ownsRow.lt h
    refine ⟨h.1, ?_⟩
    rcases h.2 with h1 | ⟨g, gc, cur, h1, h2, h3, h4⟩
    · exact .inl h1
    · refine .inr ⟨g, gc, cur, h1, h2, ?_, h4⟩
      rw [hg.block g (hlt g (by rw [h1]; rfl)).2 (hne g (by rw [h1]; rfl))]
      exact h3
  exact h2.is ht
theorem strs_grown {w w' : World} {B g : Nat} {v : Value} {l : List (List Int)} {n c : Nat} (h : OwnStrs w B v l) (ht : ∀ x ∈ l, Em5.Txt x) (hg : w.grownBy w' (Value.slice (some ⟨g, 0, none⟩) n c).ownBlock) (hB : g < B) : IsStrs w' v l :=
  owns_grown h ht hg (fun k hk e => by have := (World.ownsRow.lt h k hk).1; simp [Value.ownBlock] at e; omega)
theorem strs_grown2 {w w' : World} {B : Nat} {v : Value} {l : List (List Int)} {n c : Nat} (h : OwnStrs w B v l) (ht : ∀ x ∈ l, Em5.Txt x) {o : Obj} (hg : (w.alloc o).grownBy w' (Value.slice (some ⟨w.heap.size, 0, none⟩) n c).ownBlock) : IsStrs w' v l :=
  owns_grown (h.below ((Below.refl _ _).alloc (Nat.le_refl _) o)) ht hg (fun k hk e => by have := (World.ownsRow.lt h k hk).2; simp [Value.ownBlock] at e; omega)
/-- A node that was boxed: what was there is as it was, and its cells are there. -/
def Box (w wx : World) (c0 c1 c2 c3 c4 c5 : Value) : Prop :=
  Below w.heap.size w wx ∧ wx.cell? ⟨w.heap.size, 0, none⟩ = some c0 ∧ wx.cell? ⟨w.heap.size, 1, none⟩ = some c1 ∧ wx.cell? ⟨w.heap.size, 2, none⟩ = some c2 ∧ wx.cell? ⟨w.heap.size, 3, none⟩ = some c3 ∧ wx.cell? ⟨w.heap.size, 4, none⟩ = some c4 ∧ wx.cell? ⟨w.heap.size, 5, none⟩ = some c5 ∧ w.heap.size < wx.heap.size
theorem Box.keep {w wx w' : World} {c0 c1 c2 c3 c4 c5 : Value} (h : Box w wx c0 c1 c2 c3 c4 c5) (hb : Below wx.heap.size wx w') : Box w w' c0 c1 c2 c3 c4 c5 := by
  obtain ⟨h1, k0, k1, k2, k3, k4, k5, h6⟩ := h
  have key : ∀ o, w'.cell? ⟨w.heap.size, o, none⟩ = wx.cell? ⟨w.heap.size, o, none⟩ := fun o => hb.cell (p := ⟨w.heap.size, o, none⟩) h6
  exact ⟨h1.trans (hb.mono (Nat.le_of_lt h6)), by rw [key]; exact k0, by rw [key]; exact k1, by rw [key]; exact k2, by rw [key]; exact k3, by rw [key]; exact k4, by rw [key]; exact k5, Nat.lt_of_lt_of_le h6 hb.size⟩

set_option maxRecDepth 100000 in
set_option maxHeartbeats 2000000 in
theorem rfree_any (T : Em5.Nd) : ∀ (v bv ov : Value) (bound out : List (List Int)) (w : World), Em5.IsNd w T v → IsStrs w bv bound → IsStrs w ov out → 2 * T.size + bound.length ≤ 1000000 → T.size + out.length ≤ 1000000 →
    Calls Tryd.prog 26 #[v, bv, ov] w fun e w' => ∃ u, e = .returned u ∧ IsStrs w' u (Em5.freeR T bound out) ∧ Below w.heap.size w w' := by
  induction T using Em5.Nd.ind with
  | h op nm ar n p l ih =>
    intro v bv ov bound out w hv hb ho hs1 hs2
    have HV : Hid (∀ w', Below w.heap.size w w' → Em5.IsNd w' (.mk op nm ar n p l) v) := fun w' h => Em5.isNd_below h _ _ hv
    have HB : Hid (∀ w', Below w.heap.size w w' → IsStrs w' bv bound) := fun w' h => hb.below h
    have HO : Hid (∀ w', Below w.heap.size w w' → IsStrs w' ov out) := fun w' h => ho.below h
    unfold Em5.IsNd at hv
    obtain ⟨a, cap, rfl, t1, t2, t3, -, -, hc1, hc2, hk⟩ := hv
    have HI : Hid (∀ t ∈ l, ∀ (v bv ov : Value) (bound out : List (List Int)) (w : World), Em5.IsNd w t v → IsStrs w bv bound → IsStrs w ov out → 2 * t.size + bound.length ≤ 1000000 → t.size + out.length ≤ 1000000 →
      Calls Tryd.prog 26 #[v, bv, ov] w fun e w' => ∃ u, e = .returned u ∧ IsStrs w' u (Em5.freeR t bound out) ∧ Below w.heap.size w w') := ih
    have HK : Hid (0 < l.length → ∃ b off, a = some ⟨b, off, none⟩ ∧ b < w.heap.size ∧ Em5.KidsAt w b off l) := hk
    have HT : Hid (Em5.Txt nm ∧ Em5.Txt ar) := ⟨t2, t3⟩
    obtain ⟨b0, hb0⟩ : ∃ b0, b0 = decide (op = Em5.oVar) := ⟨_, rfl⟩
    have hq : ((Em.str op).toList == [118, 97, 114]) = b0 := by rw [Em5.str_eq t1.1, hb0]; rfl
    obtain ⟨b1, hb1⟩ : ∃ b1, b1 = decide (nm ∈ bound) := ⟨_, rfl⟩
    obtain ⟨b2, hb2⟩ : ∃ b2, b2 = decide (nm ∈ out) := ⟨_, rfl⟩
    have HOWN : Hid (Em5.own op nm bound out = if (b0 && (!b1 && !b2)) = true then Em5.ins nm out else out) := by
      rw [Hid, hb0, hb1, hb2, Em5.own]
      simp
    have HB1 : Hid (decide (nm ∈ bound) = b1) := hb1.symm
    have HB2 : Hid (decide (nm ∈ out) = b2) := hb2.symm
    clear hb0 hb1 hb2
    have hbl := hb.len
    have hol := ho.len
    have HSZ : Hid (2 * (Em5.Nd.mk op nm ar n p l).size + bound.length ≤ 1000000 ∧ (Em5.Nd.mk op nm ar n p l).size + out.length ≤ 1000000) := ⟨hs1, hs2⟩
    obtain ⟨W, hW⟩ : ∃ W, W = w.alloc (.cells #[.string (Em.str op), .string (Em.str nm), .string (Em.str ar), .int .i64 n, .int .i64 p, .slice a l.length cap] 24) := ⟨_, rfl⟩
    have hbW : Below w.heap.size w W := by rw [hW]; exact (Below.refl _ _).alloc (Nat.le_refl _) _
    have k0 : W.cell? ⟨w.heap.size, 0, none⟩ = some (.string (Em.str op)) := by rw [hW]; simp
    have k1 : W.cell? ⟨w.heap.size, 1, none⟩ = some (.string (Em.str nm)) := by rw [hW]; simp
    have k2 : W.cell? ⟨w.heap.size, 2, none⟩ = some (.string (Em.str ar)) := by rw [hW]; simp
    have k3 : W.cell? ⟨w.heap.size, 3, none⟩ = some (.int .i64 n) := by rw [hW]; simp
    have k4 : W.cell? ⟨w.heap.size, 4, none⟩ = some (.int .i64 p) := by rw [hW]; simp
    have k5 : W.cell? ⟨w.heap.size, 5, none⟩ = some (.slice a l.length cap) := by rw [hW]; simp
    have hWz : w.heap.size < W.heap.size := by rw [hW]; simp
    clear ih hk t1 t2 t3 hb ho hs1 hs2
    go_enter Tryd.func26, Tryd.ntmps26
    go_upto_region 1 with fail
    rw [← hW]
    clear hW
    go_cut [25] from 9 (fun c wx => c = .bool (b0 && (!b1 && !b2)) ∧ wx = W)
    case first =>
      have hqb := HB.out _ hbW
      have hqo := HO.out _ hbW
      have H1 : Hid (IsStrs W bv bound) := hqb
      have H2 : Hid (IsStrs W ov out) := hqo
      obtain ⟨ab, cb, rfl, -⟩ := hqb
      obtain ⟨ao, co, rfl, -⟩ := hqo
      cases b0 <;> cases b1 <;> cases b2
      all_goals
        go_wp2_with (first | (go_at_call 36; refine (rHas_any _ _ _ _ (by first | exact H1.out | exact H2.out) HT.out.1).mono ?_; rintro e w' ⟨rfl, rfl⟩; first | rw [HB1.out] | rw [HB2.out]))
        go_meet
        exact ⟨rfl, rfl⟩
    case rest =>
      obtain ⟨rfl, hwc⟩ := hcut
      rw [hwc]
      clear hwc
      have hbox : Box w W (.string (Em.str op)) (.string (Em.str nm)) (.string (Em.str ar)) (.int .i64 n) (.int .i64 p) (.slice a l.length cap) := ⟨hbW, k0, k1, k2, k3, k4, k5, hWz⟩
      have HBOX : Hid (Box w W (.string (Em.str op)) (.string (Em.str nm)) (.string (Em.str ar)) (.int .i64 n) (.int .i64 p) (.slice a l.length cap)) := hbox
      go_upto_if 25 with fail
      go_cut [2] from 7 (fun o wx => IsStrs wx o (Em5.own op nm bound out) ∧ Box w wx (.string (Em.str op)) (.string (Em.str nm)) (.string (Em.str ar)) (.int .i64 n) (.int .i64 p) (.slice a l.length cap))
      case first =>
        cases hA : (b0 && (!b1 && !b2)) with
        | false =>
          go_wp2_with fail
          go_meet
          refine ⟨?_, HBOX.out⟩
          rw [HOWN.out, hA]
          exact HO.out _ hbW
        | true =>
          have HIN : Hid (Em5.own op nm bound out = Em5.ins nm out) := by rw [Hid, HOWN.out, hA]; rfl
          have hqo := HO.out _ hbW
          have HQ : Hid (IsStrs W ov out) := hqo
          obtain ⟨ao, co, rfl, hco1, hco2, hco9, -⟩ := hqo
          have HCO9 : Hid (ao = none → co = 0) := hco9
          clear hco9
          unfold maxLen at hco2
          go_wp2_with fail
          go_loopw [7] (fun i wr => ∃ k q : Nat, k ≤ out.length ∧ i = .int .i64 k ∧ wr = W.drewN q ∧ Hid (∀ j t, j < k → out[j]? = some t → Em5.lt t nm = true)) (fun i _ => out.length - (intOf i).toNat)
          case atStart => exact ⟨0, 0, Nat.zero_le _, rfl, rfl, fun j t h => by omega⟩
          case round =>
            obtain ⟨k, q, hk, rfl, rfl, HD⟩ := hrel
            have hk0 : (0 : Int) ≤ (k : Int) := by omega
            by_cases hlt : k < out.length
            · obtain ⟨b, off, co', e9, -, -, -, hcs⟩ := HQ.out.plain (by omega)
              injection e9 with e91 e92 e93
              subst e91
              obtain ⟨t, ht⟩ : ∃ t, out[k]? = some t := ⟨_, List.getElem?_eq_getElem hlt⟩
              have hcell := hcs k t ht
              have hkI : (k : Int) < (out.length : Int) := by omega
              have hd : decide ((k : Int) < (out.length : Int)) = true := decide_eq_true hkI
              have hls := Em5.bytesLess_lt t nm (HQ.out.txt t (List.mem_of_getElem? ht)).1 HT.out.1.1
              have HTT : Hid (out[k]? = some t) := ht
              clear hcs ht e92 e93
              cases hc : Em5.lt t nm with
              | true =>
                rw [hc] at hls
                have HX : Hid (Em5.lt t nm = true) := hc
                clear hc
                go_wp2_with fail
                go_quiet (fail)
                go_wp2
                go_roundw
                case rel =>
                  refine ⟨k + 1, q + nq, by omega, by go_num, rfl, fun j t' hj ht' => ?_⟩
                  by_cases hjk : j = k
                  · subst hjk; rw [HTT.out] at ht'; cases ht'; exact HX.out
                  · exact HD.out j t' (by omega) ht'
                case measure => simp [intOf]; omega
              | false =>
                rw [hc] at hls
                have HPL : Hid (Em5.place nm out = k) := Em5.place_eq (by omega) HD.out (fun t' ht' => by rw [HTT.out] at ht'; cases ht'; exact hc)
                clear hc
                go_wp2_with fail
                go_quiet (fail)
                go_wp2_with fail
                obtain ⟨X, hX⟩ : ∃ X, X = (W.drewN q).drewN nq := ⟨_, rfl⟩
                rw [← hX]
                have hbX : Below W.heap.size W X := by rw [hX]; exact Em.below_drewN (Em.below_drewN (Below.refl _ _) q) nq
                have BX := HBOX.out.keep hbX
                have HBX : Hid (Box w X (.string (Em.str op)) (.string (Em.str nm)) (.string (Em.str ar)) (.int .i64 n) (.int .i64 p) (.slice a l.length cap)) := BX
                clear hX
                have hck : ¬ co = k := by omega
                have hkc : (k : Int) ≤ (co : Int) := by omega
                have hko : (k : Int) ≤ (out.length : Int) := by omega
                have HSX : Hid (∀ w', Below X.heap.size X w' → Below X.heap.size X w' ∧ w'.cell? ⟨w.heap.size, 1, none⟩ = some (.string (Em.str nm))) := fun w' h => ⟨h, by rw [h.cell (p := ⟨w.heap.size, 1, none⟩) HBX.out.2.2.2.2.2.2.2]; exact HBX.out.2.2.1⟩
                have HXO : Hid (∀ w', Below X.heap.size X w' → IsStrs w' (.slice (some ⟨b, off, none⟩) k co) (out.take k) ∧ IsStrs w' (.slice (some ⟨b, off + k, none⟩) (out.length - k) (co - k)) (out.drop k)) := fun w' h => by
                  have h0 := HO.out w' (HBX.out.1.trans (h.mono HBX.out.1.size))
                  have h1 := h0.sliced 0 k (by omega) (by omega)
                  have h2 := h0.sliced k out.length (by omega) (by omega)
                  refine ⟨?_, ?_⟩
                  · simpa [sliced, Addr.add] using h1
                  · have e1 : (out.drop k).take (out.length - k) = out.drop k := List.take_of_length_le (by simp)
                    rw [e1] at h2
                    have e2 : sliced (some (⟨b, off, none⟩ : Addr)) k out.length co 1 = .slice (some ⟨b, off + k, none⟩) (out.length - k) (co - k) := by
                      unfold sliced
                      rw [if_neg hck]
                      by_cases hk00 : k = 0
                      · subst hk00; simp [Addr.add]
                      · simp [Addr.add, hk00]
                    rw [e2] at h2
                    exact h2
                have hsm : out.length ≤ 1000000 := by have := HSZ.out.2; omega
                have L0 : Below X.heap.size X (X.alloc (.cells #[] 9)) := (Below.refl _ _).alloc (Nat.le_refl _) _
                have L1 : Below X.heap.size X (X.alloc (.cells #[.string (Em.str nm)] 9)) := (Below.refl _ _).alloc (Nat.le_refl _) _
                have L01 : Below X.heap.size X ((X.alloc (.cells #[] 9)).alloc (.cells #[.string (Em.str nm)] 9)) := L0.alloc L0.size _
                have L10 : Below X.heap.size X ((X.alloc (.cells #[.string (Em.str nm)] 9)).alloc (.cells #[] 9)) := L1.alloc L1.size _
                have HL : Hid (Below X.heap.size X (X.alloc (.cells #[] 9)) ∧ Below X.heap.size X (X.alloc (.cells #[.string (Em.str nm)] 9)) ∧ Below X.heap.size X ((X.alloc (.cells #[] 9)).alloc (.cells #[.string (Em.str nm)] 9)) ∧ Below X.heap.size X ((X.alloc (.cells #[.string (Em.str nm)] 9)).alloc (.cells #[] 9))) := ⟨L0, L1, L01, L10⟩
                clear L0 L1 L01 L10
                go_region_held_law (fun w' => Below X.heap.size X w' ∧ w'.cell? ⟨w.heap.size, 1, none⟩ = some (.string (Em.str nm)))
                  (first | exact HSX.out _ (Below.refl _ _).drew | exact HSX.out _ HL.out.1.drew | exact HSX.out _ HL.out.2.1.drew | exact HSX.out _ HL.out.2.2.1.drew | exact HSX.out _ HL.out.2.2.2.drew | exact HSX.out _ hb1 | exact HSX.out _ (hb1.alloc hb1.size _) | exact HSX.out _ hb2 | exact HSX.out _ hb3)
                  ((first
                    | (refine step_apps (by rfl) _ _ (by rfl) X.heap.size _ [] (by rfl) ((own_s0 X rfl (Nat.le_refl _)).below ((Below.refl _ _).drew)) _ (out.take k) (by rfl) (HXO.out _ HL.out.1.drew).1 (by simp <;> omega) (by simp) ?_; intro v1 w1 o1 hg1 hb1'; have hb1 : Below X.heap.size X w1 := HL.out.1.drew.trans hb1'; clear hg1 hb1')
                    | (refine step_apps (by rfl) _ _ (by rfl) X.heap.size _ [] (by rfl) ((own_s0 X rfl (Nat.le_refl _)).below (((Below.refl _ _).alloc (Nat.le_refl _) _).drew)) _ (out.take k) (by rfl) (HXO.out _ HL.out.2.2.1.drew).1 (by simp <;> omega) (by simp <;> omega) ?_; intro v1 w1 o1 hg1 hb1'; have hb1 : Below X.heap.size X w1 := HL.out.2.2.1.drew.trans hb1'; have hl1 : IsStrs w1 (.slice (some ⟨X.heap.size + 1, 0, none⟩) 1 1) [nm] := lit_grown hg1 (by simp) (by simp [Value.ownBlock]) HT.out.1; clear hg1 hb1')
                    | (refine step_apps (by rfl) _ _ (by rfl) X.heap.size _ [] (by rfl) ((own_s0 (X.alloc (.cells #[.string (Em.str nm)] 9)) (by simp) (by simp)).below ((Below.refl _ _).drew)) _ (out.take k) (by rfl) (HXO.out _ HL.out.2.2.2.drew).1 (by simp <;> omega) (by simp <;> omega) ?_; intro v1 w1 o1 hg1 hb1'; have hb1 : Below X.heap.size X w1 := HL.out.2.2.2.drew.trans hb1'; have hl1 : IsStrs w1 (.slice (some ⟨X.heap.size, 0, none⟩) 1 1) [nm] := lit_grown hg1 (by simp) (by simp [Value.ownBlock]) HT.out.1; clear hg1 hb1')
                    | (refine step_apps (by rfl) _ _ (by rfl) X.heap.size _ ([] ++ out.take k) (by rfl) o1 _ [nm] (by rfl) hl1 (by simp <;> omega) hb1.size ?_; intro v2 w2 o2 hg2 hb2'; have hb2 : Below X.heap.size X w2 := hb1.trans hb2'; clear hg2 hb2' hl1 o1)
                    | (refine step_apps (by rfl) _ _ (by rfl) X.heap.size _ ([] ++ out.take k) (by rfl) (OwnStrs.below o1 ((Below.refl _ _).alloc (Nat.le_refl _) _)) _ [nm] (by rfl) (lit_new w1 nm HT.out.1) (by simp <;> omega) (by have := hb1.size; simp; omega) ?_; intro v2 w2 o2 hg2 hb2'; have hb2 : Below X.heap.size X w2 := (hb1.alloc hb1.size _).trans hb2'; clear hg2 hb2' o1)
                    | (refine step_apps (by rfl) _ _ (by rfl) X.heap.size _ ([] ++ out.take k ++ [nm]) (by rfl) o2 _ (out.drop k) (by rfl) (HXO.out _ hb2).2 (by simp <;> omega) hb2.size ?_; intro v3 w3 o3 hg3 hb3'; have hb3 : Below X.heap.size X w3 := hb2.trans hb3'; clear hg3 hb3' o2)))
                all_goals
                  simp only [List.getElem_toArray, List.getElem_cons_succ, List.getElem_cons_zero]
                  go_wp2_with fail
                  go_meet
                  refine ⟨?_, HBX.out.keep hb3⟩
                  have hfin : [] ++ out.take k ++ [nm] ++ out.drop k = Em5.own op nm bound out := by rw [HIN.out, Em5.ins, HPL.out]; rfl
                  rw [hfin] at o3
                  exact OwnStrs.is o3 (Em5.own_mem HT.out.1 HQ.out.txt)
            · have hke : k = out.length := by omega
              subst hke
              have HPL : Hid (Em5.place nm out = out.length) := Em5.place_eq (by omega) HD.out (fun t' ht' => by have := (List.getElem?_eq_some_iff.1 ht').1; omega)
              have hd : decide ((out.length : Int) < (out.length : Int)) = false := decide_eq_false (by omega)
              have hco3 : (out.length : Int) ≤ (co : Int) := by omega
              by_cases hp0 : 0 < out.length
              · obtain ⟨b, off, co', e9, -, -, -, -⟩ := HQ.out.plain hp0
                injection e9 with e91 e92 e93
                subst e91
                clear e92 e93
                by_cases hck : co = out.length
                · subst hck
                  go_wp2_with fail
                  go_quiet (fail)
                  go_wp2_with fail
                  obtain ⟨X, hX⟩ : ∃ X, X = (W.drewN q).drewN nq := ⟨_, rfl⟩
                  rw [← hX]
                  have hbX : Below W.heap.size W X := by rw [hX]; exact Em.below_drewN (Em.below_drewN (Below.refl _ _) q) nq
                  have BX := HBOX.out.keep hbX
                  have HBX : Hid (Box w X (.string (Em.str op)) (.string (Em.str nm)) (.string (Em.str ar)) (.int .i64 n) (.int .i64 p) (.slice a l.length cap)) := BX
                  clear hX
                  have HSX : Hid (∀ w', Below X.heap.size X w' → Below X.heap.size X w' ∧ w'.cell? ⟨w.heap.size, 1, none⟩ = some (.string (Em.str nm))) := fun w' h => ⟨h, by rw [h.cell (p := ⟨w.heap.size, 1, none⟩) HBX.out.2.2.2.2.2.2.2]; exact HBX.out.2.2.1⟩
                  have HXO : Hid (∀ w', Below X.heap.size X w' → IsStrs w' (.slice (some ⟨b, off, none⟩) out.length out.length) (out.take out.length) ∧ IsStrs w' (.slice (some ⟨b, off, none⟩) 0 0) (out.drop out.length)) := fun w' h => by
                    have h0 := HO.out w' (HBX.out.1.trans (h.mono HBX.out.1.size))
                    exact ⟨by rw [List.take_length]; exact h0, by rw [List.drop_length]; exact strs_none _ _ (by simp [maxLen]) (by simp)⟩
                  have hsm : out.length ≤ 1000000 := by have := HSZ.out.2; omega
                  have L0 : Below X.heap.size X (X.alloc (.cells #[] 9)) := (Below.refl _ _).alloc (Nat.le_refl _) _
                  have L1 : Below X.heap.size X (X.alloc (.cells #[.string (Em.str nm)] 9)) := (Below.refl _ _).alloc (Nat.le_refl _) _
                  have L01 : Below X.heap.size X ((X.alloc (.cells #[] 9)).alloc (.cells #[.string (Em.str nm)] 9)) := L0.alloc L0.size _
                  have L10 : Below X.heap.size X ((X.alloc (.cells #[.string (Em.str nm)] 9)).alloc (.cells #[] 9)) := L1.alloc L1.size _
                  have HL : Hid (Below X.heap.size X (X.alloc (.cells #[] 9)) ∧ Below X.heap.size X (X.alloc (.cells #[.string (Em.str nm)] 9)) ∧ Below X.heap.size X ((X.alloc (.cells #[] 9)).alloc (.cells #[.string (Em.str nm)] 9)) ∧ Below X.heap.size X ((X.alloc (.cells #[.string (Em.str nm)] 9)).alloc (.cells #[] 9))) := ⟨L0, L1, L01, L10⟩
                  clear L0 L1 L01 L10
                  go_region_held_law (fun w' => Below X.heap.size X w' ∧ w'.cell? ⟨w.heap.size, 1, none⟩ = some (.string (Em.str nm)))
                    (first | exact HSX.out _ (Below.refl _ _).drew | exact HSX.out _ HL.out.1.drew | exact HSX.out _ HL.out.2.1.drew | exact HSX.out _ HL.out.2.2.1.drew | exact HSX.out _ HL.out.2.2.2.drew | exact HSX.out _ hb1 | exact HSX.out _ (hb1.alloc hb1.size _) | exact HSX.out _ hb2 | exact HSX.out _ hb3)
                    ((first
                      | (refine step_apps (by rfl) _ _ (by rfl) X.heap.size _ [] (by rfl) ((own_s0 X rfl (Nat.le_refl _)).below ((Below.refl _ _).drew)) _ (out.take out.length) (by rfl) (HXO.out _ HL.out.1.drew).1 (by simp <;> omega) (by simp) ?_; intro v1 w1 o1 hg1 hb1'; have hb1 : Below X.heap.size X w1 := HL.out.1.drew.trans hb1'; clear hg1 hb1')
                      | (refine step_apps (by rfl) _ _ (by rfl) X.heap.size _ [] (by rfl) ((own_s0 X rfl (Nat.le_refl _)).below (((Below.refl _ _).alloc (Nat.le_refl _) _).drew)) _ (out.take out.length) (by rfl) (HXO.out _ HL.out.2.2.1.drew).1 (by simp <;> omega) (by simp <;> omega) ?_; intro v1 w1 o1 hg1 hb1'; have hb1 : Below X.heap.size X w1 := HL.out.2.2.1.drew.trans hb1'; have hl1 : IsStrs w1 (.slice (some ⟨X.heap.size + 1, 0, none⟩) 1 1) [nm] := lit_grown hg1 (by simp) (by simp [Value.ownBlock]) HT.out.1; clear hg1 hb1')
                      | (refine step_apps (by rfl) _ _ (by rfl) X.heap.size _ [] (by rfl) ((own_s0 (X.alloc (.cells #[.string (Em.str nm)] 9)) (by simp) (by simp)).below ((Below.refl _ _).drew)) _ (out.take out.length) (by rfl) (HXO.out _ HL.out.2.2.2.drew).1 (by simp <;> omega) (by simp <;> omega) ?_; intro v1 w1 o1 hg1 hb1'; have hb1 : Below X.heap.size X w1 := HL.out.2.2.2.drew.trans hb1'; have hl1 : IsStrs w1 (.slice (some ⟨X.heap.size, 0, none⟩) 1 1) [nm] := lit_grown hg1 (by simp) (by simp [Value.ownBlock]) HT.out.1; clear hg1 hb1')
                      | (refine step_apps (by rfl) _ _ (by rfl) X.heap.size _ ([] ++ out.take out.length) (by rfl) o1 _ [nm] (by rfl) hl1 (by simp <;> omega) hb1.size ?_; intro v2 w2 o2 hg2 hb2'; have hb2 : Below X.heap.size X w2 := hb1.trans hb2'; clear hg2 hb2' hl1 o1)
                      | (refine step_apps (by rfl) _ _ (by rfl) X.heap.size _ ([] ++ out.take out.length) (by rfl) (OwnStrs.below o1 ((Below.refl _ _).alloc (Nat.le_refl _) _)) _ [nm] (by rfl) (lit_new w1 nm HT.out.1) (by simp <;> omega) (by have := hb1.size; simp; omega) ?_; intro v2 w2 o2 hg2 hb2'; have hb2 : Below X.heap.size X w2 := (hb1.alloc hb1.size _).trans hb2'; clear hg2 hb2' o1)
                      | (refine step_apps (by rfl) _ _ (by rfl) X.heap.size _ ([] ++ out.take out.length ++ [nm]) (by rfl) o2 _ (out.drop out.length) (by rfl) (HXO.out _ hb2).2 (by simp <;> omega) hb2.size ?_; intro v3 w3 o3 hg3 hb3'; have hb3 : Below X.heap.size X w3 := hb2.trans hb3'; clear hg3 hb3' o2)))
                  all_goals
                    simp only [List.getElem_toArray, List.getElem_cons_succ, List.getElem_cons_zero]
                    go_wp2_with fail
                    go_meet
                    refine ⟨?_, HBX.out.keep hb3⟩
                    have hfin : [] ++ out.take out.length ++ [nm] ++ out.drop out.length = Em5.own op nm bound out := by rw [HIN.out, Em5.ins, HPL.out]; rfl
                    rw [hfin] at o3
                    exact OwnStrs.is o3 (Em5.own_mem HT.out.1 HQ.out.txt)
                · go_wp2_with fail
                  go_quiet (fail)
                  go_wp2_with fail
                  obtain ⟨X, hX⟩ : ∃ X, X = (W.drewN q).drewN nq := ⟨_, rfl⟩
                  rw [← hX]
                  have hbX : Below W.heap.size W X := by rw [hX]; exact Em.below_drewN (Em.below_drewN (Below.refl _ _) q) nq
                  have BX := HBOX.out.keep hbX
                  have HBX : Hid (Box w X (.string (Em.str op)) (.string (Em.str nm)) (.string (Em.str ar)) (.int .i64 n) (.int .i64 p) (.slice a l.length cap)) := BX
                  clear hX
                  have HSX : Hid (∀ w', Below X.heap.size X w' → Below X.heap.size X w' ∧ w'.cell? ⟨w.heap.size, 1, none⟩ = some (.string (Em.str nm))) := fun w' h => ⟨h, by rw [h.cell (p := ⟨w.heap.size, 1, none⟩) HBX.out.2.2.2.2.2.2.2]; exact HBX.out.2.2.1⟩
                  have HXO : Hid (∀ w', Below X.heap.size X w' → IsStrs w' (.slice (some ⟨b, off, none⟩) out.length co) (out.take out.length) ∧ IsStrs w' (.slice (some ⟨b, off + out.length, none⟩) 0 (co - out.length)) (out.drop out.length)) := fun w' h => by
                    have h0 := HO.out w' (HBX.out.1.trans (h.mono HBX.out.1.size))
                    exact ⟨by rw [List.take_length]; exact h0, by rw [List.drop_length]; exact strs_none _ _ (by unfold maxLen; omega) (by simp)⟩
                  have hsm : out.length ≤ 1000000 := by have := HSZ.out.2; omega
                  have L0 : Below X.heap.size X (X.alloc (.cells #[] 9)) := (Below.refl _ _).alloc (Nat.le_refl _) _
                  have L1 : Below X.heap.size X (X.alloc (.cells #[.string (Em.str nm)] 9)) := (Below.refl _ _).alloc (Nat.le_refl _) _
                  have L01 : Below X.heap.size X ((X.alloc (.cells #[] 9)).alloc (.cells #[.string (Em.str nm)] 9)) := L0.alloc L0.size _
                  have L10 : Below X.heap.size X ((X.alloc (.cells #[.string (Em.str nm)] 9)).alloc (.cells #[] 9)) := L1.alloc L1.size _
                  have HL : Hid (Below X.heap.size X (X.alloc (.cells #[] 9)) ∧ Below X.heap.size X (X.alloc (.cells #[.string (Em.str nm)] 9)) ∧ Below X.heap.size X ((X.alloc (.cells #[] 9)).alloc (.cells #[.string (Em.str nm)] 9)) ∧ Below X.heap.size X ((X.alloc (.cells #[.string (Em.str nm)] 9)).alloc (.cells #[] 9))) := ⟨L0, L1, L01, L10⟩
                  clear L0 L1 L01 L10
                  go_region_held_law (fun w' => Below X.heap.size X w' ∧ w'.cell? ⟨w.heap.size, 1, none⟩ = some (.string (Em.str nm)))
                    (first | exact HSX.out _ (Below.refl _ _).drew | exact HSX.out _ HL.out.1.drew | exact HSX.out _ HL.out.2.1.drew | exact HSX.out _ HL.out.2.2.1.drew | exact HSX.out _ HL.out.2.2.2.drew | exact HSX.out _ hb1 | exact HSX.out _ (hb1.alloc hb1.size _) | exact HSX.out _ hb2 | exact HSX.out _ hb3)
                    ((first
                      | (refine step_apps (by rfl) _ _ (by rfl) X.heap.size _ [] (by rfl) ((own_s0 X rfl (Nat.le_refl _)).below ((Below.refl _ _).drew)) _ (out.take out.length) (by rfl) (HXO.out _ HL.out.1.drew).1 (by simp <;> omega) (by simp) ?_; intro v1 w1 o1 hg1 hb1'; have hb1 : Below X.heap.size X w1 := HL.out.1.drew.trans hb1'; clear hg1 hb1')
                      | (refine step_apps (by rfl) _ _ (by rfl) X.heap.size _ [] (by rfl) ((own_s0 X rfl (Nat.le_refl _)).below (((Below.refl _ _).alloc (Nat.le_refl _) _).drew)) _ (out.take out.length) (by rfl) (HXO.out _ HL.out.2.2.1.drew).1 (by simp <;> omega) (by simp <;> omega) ?_; intro v1 w1 o1 hg1 hb1'; have hb1 : Below X.heap.size X w1 := HL.out.2.2.1.drew.trans hb1'; have hl1 : IsStrs w1 (.slice (some ⟨X.heap.size + 1, 0, none⟩) 1 1) [nm] := lit_grown hg1 (by simp) (by simp [Value.ownBlock]) HT.out.1; clear hg1 hb1')
                      | (refine step_apps (by rfl) _ _ (by rfl) X.heap.size _ [] (by rfl) ((own_s0 (X.alloc (.cells #[.string (Em.str nm)] 9)) (by simp) (by simp)).below ((Below.refl _ _).drew)) _ (out.take out.length) (by rfl) (HXO.out _ HL.out.2.2.2.drew).1 (by simp <;> omega) (by simp <;> omega) ?_; intro v1 w1 o1 hg1 hb1'; have hb1 : Below X.heap.size X w1 := HL.out.2.2.2.drew.trans hb1'; have hl1 : IsStrs w1 (.slice (some ⟨X.heap.size, 0, none⟩) 1 1) [nm] := lit_grown hg1 (by simp) (by simp [Value.ownBlock]) HT.out.1; clear hg1 hb1')
                      | (refine step_apps (by rfl) _ _ (by rfl) X.heap.size _ ([] ++ out.take out.length) (by rfl) o1 _ [nm] (by rfl) hl1 (by simp <;> omega) hb1.size ?_; intro v2 w2 o2 hg2 hb2'; have hb2 : Below X.heap.size X w2 := hb1.trans hb2'; clear hg2 hb2' hl1 o1)
                      | (refine step_apps (by rfl) _ _ (by rfl) X.heap.size _ ([] ++ out.take out.length) (by rfl) (OwnStrs.below o1 ((Below.refl _ _).alloc (Nat.le_refl _) _)) _ [nm] (by rfl) (lit_new w1 nm HT.out.1) (by simp <;> omega) (by have := hb1.size; simp; omega) ?_; intro v2 w2 o2 hg2 hb2'; have hb2 : Below X.heap.size X w2 := (hb1.alloc hb1.size _).trans hb2'; clear hg2 hb2' o1)
                      | (refine step_apps (by rfl) _ _ (by rfl) X.heap.size _ ([] ++ out.take out.length ++ [nm]) (by rfl) o2 _ (out.drop out.length) (by rfl) (HXO.out _ hb2).2 (by simp <;> omega) hb2.size ?_; intro v3 w3 o3 hg3 hb3'; have hb3 : Below X.heap.size X w3 := hb2.trans hb3'; clear hg3 hb3' o2)))
                  all_goals
                    simp only [List.getElem_toArray, List.getElem_cons_succ, List.getElem_cons_zero]
                    go_wp2_with fail
                    go_meet
                    refine ⟨?_, HBX.out.keep hb3⟩
                    have hfin : [] ++ out.take out.length ++ [nm] ++ out.drop out.length = Em5.own op nm bound out := by rw [HIN.out, Em5.ins, HPL.out]; rfl
                    rw [hfin] at o3
                    exact OwnStrs.is o3 (Em5.own_mem HT.out.1 HQ.out.txt)
              · have hn0 : out = [] := List.length_eq_zero_iff.1 (by omega)
                subst hn0
                cases ao with
                | none =>
                  have hcz : co = 0 := HCO9.out rfl
                  subst hcz
                  clear hd hco3 hp0
                  go_wp2_with fail
                  go_quiet (fail)
                  go_wp2_with fail
                  obtain ⟨X, hX⟩ : ∃ X, X = (W.drewN q).drewN nq := ⟨_, rfl⟩
                  rw [← hX]
                  have hbX : Below W.heap.size W X := by rw [hX]; exact Em.below_drewN (Em.below_drewN (Below.refl _ _) q) nq
                  have BX := HBOX.out.keep hbX
                  have HBX : Hid (Box w X (.string (Em.str op)) (.string (Em.str nm)) (.string (Em.str ar)) (.int .i64 n) (.int .i64 p) (.slice a l.length cap)) := BX
                  clear hX
                  have HSX : Hid (∀ w', Below X.heap.size X w' → Below X.heap.size X w' ∧ w'.cell? ⟨w.heap.size, 1, none⟩ = some (.string (Em.str nm))) := fun w' h => ⟨h, by rw [h.cell (p := ⟨w.heap.size, 1, none⟩) HBX.out.2.2.2.2.2.2.2]; exact HBX.out.2.2.1⟩
                  have HXO : Hid (∀ w', Below X.heap.size X w' → IsStrs w' (.slice none 0 0) (([] : List (List Int)).take 0) ∧ IsStrs w' (.slice none 0 0) (([] : List (List Int)).drop 0)) := fun w' h => by
                    have h0 := HO.out w' (HBX.out.1.trans (h.mono HBX.out.1.size))
                    exact ⟨strs_none _ _ (by unfold maxLen; omega) (by simp), strs_none _ _ (by unfold maxLen; omega) (by simp)⟩
                  have hsm : ([] : List (List Int)).length ≤ 1000000 := by have := HSZ.out.2; omega
                  have L0 : Below X.heap.size X (X.alloc (.cells #[] 9)) := (Below.refl _ _).alloc (Nat.le_refl _) _
                  have L1 : Below X.heap.size X (X.alloc (.cells #[.string (Em.str nm)] 9)) := (Below.refl _ _).alloc (Nat.le_refl _) _
                  have L01 : Below X.heap.size X ((X.alloc (.cells #[] 9)).alloc (.cells #[.string (Em.str nm)] 9)) := L0.alloc L0.size _
                  have L10 : Below X.heap.size X ((X.alloc (.cells #[.string (Em.str nm)] 9)).alloc (.cells #[] 9)) := L1.alloc L1.size _
                  have HL : Hid (Below X.heap.size X (X.alloc (.cells #[] 9)) ∧ Below X.heap.size X (X.alloc (.cells #[.string (Em.str nm)] 9)) ∧ Below X.heap.size X ((X.alloc (.cells #[] 9)).alloc (.cells #[.string (Em.str nm)] 9)) ∧ Below X.heap.size X ((X.alloc (.cells #[.string (Em.str nm)] 9)).alloc (.cells #[] 9))) := ⟨L0, L1, L01, L10⟩
                  clear L0 L1 L01 L10
                  go_region_held_law (fun w' => Below X.heap.size X w' ∧ w'.cell? ⟨w.heap.size, 1, none⟩ = some (.string (Em.str nm)))
                    (first | exact HSX.out _ (Below.refl _ _).drew | exact HSX.out _ HL.out.1.drew | exact HSX.out _ HL.out.2.1.drew | exact HSX.out _ HL.out.2.2.1.drew | exact HSX.out _ HL.out.2.2.2.drew | exact HSX.out _ hb1 | exact HSX.out _ (hb1.alloc hb1.size _) | exact HSX.out _ hb2 | exact HSX.out _ hb3)
                    ((first
                      | (refine step_apps (by rfl) _ _ (by rfl) X.heap.size _ [] (by rfl) ((own_s0 X rfl (Nat.le_refl _)).below ((Below.refl _ _).drew)) _ (([] : List (List Int)).take 0) (by rfl) (HXO.out _ HL.out.1.drew).1 (by simp <;> omega) (by simp) ?_; intro v1 w1 o1 hg1 hb1'; have hb1 : Below X.heap.size X w1 := HL.out.1.drew.trans hb1'; clear hg1 hb1')
                      | (refine step_apps (by rfl) _ _ (by rfl) X.heap.size _ [] (by rfl) ((own_s0 X rfl (Nat.le_refl _)).below (((Below.refl _ _).alloc (Nat.le_refl _) _).drew)) _ (([] : List (List Int)).take 0) (by rfl) (HXO.out _ HL.out.2.2.1.drew).1 (by simp <;> omega) (by simp <;> omega) ?_; intro v1 w1 o1 hg1 hb1'; have hb1 : Below X.heap.size X w1 := HL.out.2.2.1.drew.trans hb1'; have hl1 : IsStrs w1 (.slice (some ⟨X.heap.size + 1, 0, none⟩) 1 1) [nm] := lit_grown hg1 (by simp) (by simp [Value.ownBlock]) HT.out.1; clear hg1 hb1')
                      | (refine step_apps (by rfl) _ _ (by rfl) X.heap.size _ [] (by rfl) ((own_s0 (X.alloc (.cells #[.string (Em.str nm)] 9)) (by simp) (by simp)).below ((Below.refl _ _).drew)) _ (([] : List (List Int)).take 0) (by rfl) (HXO.out _ HL.out.2.2.2.drew).1 (by simp <;> omega) (by simp <;> omega) ?_; intro v1 w1 o1 hg1 hb1'; have hb1 : Below X.heap.size X w1 := HL.out.2.2.2.drew.trans hb1'; have hl1 : IsStrs w1 (.slice (some ⟨X.heap.size, 0, none⟩) 1 1) [nm] := lit_grown hg1 (by simp) (by simp [Value.ownBlock]) HT.out.1; clear hg1 hb1')
                      | (refine step_apps (by rfl) _ _ (by rfl) X.heap.size _ ([] ++ ([] : List (List Int)).take 0) (by rfl) o1 _ [nm] (by rfl) hl1 (by simp <;> omega) hb1.size ?_; intro v2 w2 o2 hg2 hb2'; have hb2 : Below X.heap.size X w2 := hb1.trans hb2'; clear hg2 hb2' hl1 o1)
                      | (refine step_apps (by rfl) _ _ (by rfl) X.heap.size _ ([] ++ ([] : List (List Int)).take 0) (by rfl) (OwnStrs.below o1 ((Below.refl _ _).alloc (Nat.le_refl _) _)) _ [nm] (by rfl) (lit_new w1 nm HT.out.1) (by simp <;> omega) (by have := hb1.size; simp; omega) ?_; intro v2 w2 o2 hg2 hb2'; have hb2 : Below X.heap.size X w2 := (hb1.alloc hb1.size _).trans hb2'; clear hg2 hb2' o1)
                      | (refine step_apps (by rfl) _ _ (by rfl) X.heap.size _ ([] ++ ([] : List (List Int)).take 0 ++ [nm]) (by rfl) o2 _ (([] : List (List Int)).drop 0) (by rfl) (HXO.out _ hb2).2 (by simp <;> omega) hb2.size ?_; intro v3 w3 o3 hg3 hb3'; have hb3 : Below X.heap.size X w3 := hb2.trans hb3'; clear hg3 hb3' o2)))
                  all_goals
                    simp only [List.getElem_toArray, List.getElem_cons_succ, List.getElem_cons_zero]
                    go_wp2_with fail
                    go_meet
                    refine ⟨?_, HBX.out.keep hb3⟩
                    have hfin : [] ++ ([] : List (List Int)).take 0 ++ [nm] ++ ([] : List (List Int)).drop 0 = Em5.own op nm bound [] := by rw [HIN.out, Em5.ins, HPL.out]; rfl
                    rw [hfin] at o3
                    exact OwnStrs.is o3 (Em5.own_mem HT.out.1 HQ.out.txt)
                | some ad =>
                  clear hd hco3 hp0
                  by_cases hcz : co = 0
                  · subst hcz
                    go_wp2_with fail
                    go_quiet (fail)
                    go_wp2_with fail
                    obtain ⟨X, hX⟩ : ∃ X, X = (W.drewN q).drewN nq := ⟨_, rfl⟩
                    rw [← hX]
                    have hbX : Below W.heap.size W X := by rw [hX]; exact Em.below_drewN (Em.below_drewN (Below.refl _ _) q) nq
                    have BX := HBOX.out.keep hbX
                    have HBX : Hid (Box w X (.string (Em.str op)) (.string (Em.str nm)) (.string (Em.str ar)) (.int .i64 n) (.int .i64 p) (.slice a l.length cap)) := BX
                    clear hX
                    have HSX : Hid (∀ w', Below X.heap.size X w' → Below X.heap.size X w' ∧ w'.cell? ⟨w.heap.size, 1, none⟩ = some (.string (Em.str nm))) := fun w' h => ⟨h, by rw [h.cell (p := ⟨w.heap.size, 1, none⟩) HBX.out.2.2.2.2.2.2.2]; exact HBX.out.2.2.1⟩
                    have HXO : Hid (∀ w', Below X.heap.size X w' → IsStrs w' (.slice (some ad) 0 0) (([] : List (List Int)).take 0) ∧ IsStrs w' (.slice (some ad) 0 0) (([] : List (List Int)).drop 0)) := fun w' h => by
                      have h0 := HO.out w' (HBX.out.1.trans (h.mono HBX.out.1.size))
                      exact ⟨strs_none _ _ (by unfold maxLen; omega) (by simp), strs_none _ _ (by unfold maxLen; omega) (by simp)⟩
                    have hsm : ([] : List (List Int)).length ≤ 1000000 := by have := HSZ.out.2; omega
                    have L0 : Below X.heap.size X (X.alloc (.cells #[] 9)) := (Below.refl _ _).alloc (Nat.le_refl _) _
                    have L1 : Below X.heap.size X (X.alloc (.cells #[.string (Em.str nm)] 9)) := (Below.refl _ _).alloc (Nat.le_refl _) _
                    have L01 : Below X.heap.size X ((X.alloc (.cells #[] 9)).alloc (.cells #[.string (Em.str nm)] 9)) := L0.alloc L0.size _
                    have L10 : Below X.heap.size X ((X.alloc (.cells #[.string (Em.str nm)] 9)).alloc (.cells #[] 9)) := L1.alloc L1.size _
                    have HL : Hid (Below X.heap.size X (X.alloc (.cells #[] 9)) ∧ Below X.heap.size X (X.alloc (.cells #[.string (Em.str nm)] 9)) ∧ Below X.heap.size X ((X.alloc (.cells #[] 9)).alloc (.cells #[.string (Em.str nm)] 9)) ∧ Below X.heap.size X ((X.alloc (.cells #[.string (Em.str nm)] 9)).alloc (.cells #[] 9))) := ⟨L0, L1, L01, L10⟩
                    clear L0 L1 L01 L10
                    go_region_held_law (fun w' => Below X.heap.size X w' ∧ w'.cell? ⟨w.heap.size, 1, none⟩ = some (.string (Em.str nm)))
                      (first | exact HSX.out _ (Below.refl _ _).drew | exact HSX.out _ HL.out.1.drew | exact HSX.out _ HL.out.2.1.drew | exact HSX.out _ HL.out.2.2.1.drew | exact HSX.out _ HL.out.2.2.2.drew | exact HSX.out _ hb1 | exact HSX.out _ (hb1.alloc hb1.size _) | exact HSX.out _ hb2 | exact HSX.out _ hb3)
                      ((first
                        | (refine step_apps (by rfl) _ _ (by rfl) X.heap.size _ [] (by rfl) ((own_s0 X rfl (Nat.le_refl _)).below ((Below.refl _ _).drew)) _ (([] : List (List Int)).take 0) (by rfl) (HXO.out _ HL.out.1.drew).1 (by simp <;> omega) (by simp) ?_; intro v1 w1 o1 hg1 hb1'; have hb1 : Below X.heap.size X w1 := HL.out.1.drew.trans hb1'; clear hg1 hb1')
                        | (refine step_apps (by rfl) _ _ (by rfl) X.heap.size _ [] (by rfl) ((own_s0 X rfl (Nat.le_refl _)).below (((Below.refl _ _).alloc (Nat.le_refl _) _).drew)) _ (([] : List (List Int)).take 0) (by rfl) (HXO.out _ HL.out.2.2.1.drew).1 (by simp <;> omega) (by simp <;> omega) ?_; intro v1 w1 o1 hg1 hb1'; have hb1 : Below X.heap.size X w1 := HL.out.2.2.1.drew.trans hb1'; have hl1 : IsStrs w1 (.slice (some ⟨X.heap.size + 1, 0, none⟩) 1 1) [nm] := lit_grown hg1 (by simp) (by simp [Value.ownBlock]) HT.out.1; clear hg1 hb1')
                        | (refine step_apps (by rfl) _ _ (by rfl) X.heap.size _ [] (by rfl) ((own_s0 (X.alloc (.cells #[.string (Em.str nm)] 9)) (by simp) (by simp)).below ((Below.refl _ _).drew)) _ (([] : List (List Int)).take 0) (by rfl) (HXO.out _ HL.out.2.2.2.drew).1 (by simp <;> omega) (by simp <;> omega) ?_; intro v1 w1 o1 hg1 hb1'; have hb1 : Below X.heap.size X w1 := HL.out.2.2.2.drew.trans hb1'; have hl1 : IsStrs w1 (.slice (some ⟨X.heap.size, 0, none⟩) 1 1) [nm] := lit_grown hg1 (by simp) (by simp [Value.ownBlock]) HT.out.1; clear hg1 hb1')
                        | (refine step_apps (by rfl) _ _ (by rfl) X.heap.size _ ([] ++ ([] : List (List Int)).take 0) (by rfl) o1 _ [nm] (by rfl) hl1 (by simp <;> omega) hb1.size ?_; intro v2 w2 o2 hg2 hb2'; have hb2 : Below X.heap.size X w2 := hb1.trans hb2'; clear hg2 hb2' hl1 o1)
                        | (refine step_apps (by rfl) _ _ (by rfl) X.heap.size _ ([] ++ ([] : List (List Int)).take 0) (by rfl) (OwnStrs.below o1 ((Below.refl _ _).alloc (Nat.le_refl _) _)) _ [nm] (by rfl) (lit_new w1 nm HT.out.1) (by simp <;> omega) (by have := hb1.size; simp; omega) ?_; intro v2 w2 o2 hg2 hb2'; have hb2 : Below X.heap.size X w2 := (hb1.alloc hb1.size _).trans hb2'; clear hg2 hb2' o1)
                        | (refine step_apps (by rfl) _ _ (by rfl) X.heap.size _ ([] ++ ([] : List (List Int)).take 0 ++ [nm]) (by rfl) o2 _ (([] : List (List Int)).drop 0) (by rfl) (HXO.out _ hb2).2 (by simp <;> omega) hb2.size ?_; intro v3 w3 o3 hg3 hb3'; have hb3 : Below X.heap.size X w3 := hb2.trans hb3'; clear hg3 hb3' o2)))
                    all_goals
                      simp only [List.getElem_toArray, List.getElem_cons_succ, List.getElem_cons_zero]
                      go_wp2_with fail
                      go_meet
                      refine ⟨?_, HBX.out.keep hb3⟩
                      have hfin : [] ++ ([] : List (List Int)).take 0 ++ [nm] ++ ([] : List (List Int)).drop 0 = Em5.own op nm bound [] := by rw [HIN.out, Em5.ins, HPL.out]; rfl
                      rw [hfin] at o3
                      exact OwnStrs.is o3 (Em5.own_mem HT.out.1 HQ.out.txt)
                  · go_wp2_with fail
                    go_quiet (fail)
                    go_wp2_with fail
                    obtain ⟨X, hX⟩ : ∃ X, X = (W.drewN q).drewN nq := ⟨_, rfl⟩
                    rw [← hX]
                    have hbX : Below W.heap.size W X := by rw [hX]; exact Em.below_drewN (Em.below_drewN (Below.refl _ _) q) nq
                    have BX := HBOX.out.keep hbX
                    have HBX : Hid (Box w X (.string (Em.str op)) (.string (Em.str nm)) (.string (Em.str ar)) (.int .i64 n) (.int .i64 p) (.slice a l.length cap)) := BX
                    clear hX
                    have HSX : Hid (∀ w', Below X.heap.size X w' → Below X.heap.size X w' ∧ w'.cell? ⟨w.heap.size, 1, none⟩ = some (.string (Em.str nm))) := fun w' h => ⟨h, by rw [h.cell (p := ⟨w.heap.size, 1, none⟩) HBX.out.2.2.2.2.2.2.2]; exact HBX.out.2.2.1⟩
                    have HXO : Hid (∀ w', Below X.heap.size X w' → IsStrs w' (.slice (some ad) 0 co) (([] : List (List Int)).take 0) ∧ IsStrs w' (.slice (some ad) 0 co) (([] : List (List Int)).drop 0)) := fun w' h => by
                      have h0 := HO.out w' (HBX.out.1.trans (h.mono HBX.out.1.size))
                      exact ⟨strs_none _ _ (by unfold maxLen; omega) (by simp), strs_none _ _ (by unfold maxLen; omega) (by simp)⟩
                    have hsm : ([] : List (List Int)).length ≤ 1000000 := by have := HSZ.out.2; omega
                    have L0 : Below X.heap.size X (X.alloc (.cells #[] 9)) := (Below.refl _ _).alloc (Nat.le_refl _) _
                    have L1 : Below X.heap.size X (X.alloc (.cells #[.string (Em.str nm)] 9)) := (Below.refl _ _).alloc (Nat.le_refl _) _
                    have L01 : Below X.heap.size X ((X.alloc (.cells #[] 9)).alloc (.cells #[.string (Em.str nm)] 9)) := L0.alloc L0.size _
                    have L10 : Below X.heap.size X ((X.alloc (.cells #[.string (Em.str nm)] 9)).alloc (.cells #[] 9)) := L1.alloc L1.size _
                    have HL : Hid (Below X.heap.size X (X.alloc (.cells #[] 9)) ∧ Below X.heap.size X (X.alloc (.cells #[.string (Em.str nm)] 9)) ∧ Below X.heap.size X ((X.alloc (.cells #[] 9)).alloc (.cells #[.string (Em.str nm)] 9)) ∧ Below X.heap.size X ((X.alloc (.cells #[.string (Em.str nm)] 9)).alloc (.cells #[] 9))) := ⟨L0, L1, L01, L10⟩
                    clear L0 L1 L01 L10
                    go_region_held_law (fun w' => Below X.heap.size X w' ∧ w'.cell? ⟨w.heap.size, 1, none⟩ = some (.string (Em.str nm)))
                      (first | exact HSX.out _ (Below.refl _ _).drew | exact HSX.out _ HL.out.1.drew | exact HSX.out _ HL.out.2.1.drew | exact HSX.out _ HL.out.2.2.1.drew | exact HSX.out _ HL.out.2.2.2.drew | exact HSX.out _ hb1 | exact HSX.out _ (hb1.alloc hb1.size _) | exact HSX.out _ hb2 | exact HSX.out _ hb3)
                      ((first
                        | (refine step_apps (by rfl) _ _ (by rfl) X.heap.size _ [] (by rfl) ((own_s0 X rfl (Nat.le_refl _)).below ((Below.refl _ _).drew)) _ (([] : List (List Int)).take 0) (by rfl) (HXO.out _ HL.out.1.drew).1 (by simp <;> omega) (by simp) ?_; intro v1 w1 o1 hg1 hb1'; have hb1 : Below X.heap.size X w1 := HL.out.1.drew.trans hb1'; clear hg1 hb1')
                        | (refine step_apps (by rfl) _ _ (by rfl) X.heap.size _ [] (by rfl) ((own_s0 X rfl (Nat.le_refl _)).below (((Below.refl _ _).alloc (Nat.le_refl _) _).drew)) _ (([] : List (List Int)).take 0) (by rfl) (HXO.out _ HL.out.2.2.1.drew).1 (by simp <;> omega) (by simp <;> omega) ?_; intro v1 w1 o1 hg1 hb1'; have hb1 : Below X.heap.size X w1 := HL.out.2.2.1.drew.trans hb1'; have hl1 : IsStrs w1 (.slice (some ⟨X.heap.size + 1, 0, none⟩) 1 1) [nm] := lit_grown hg1 (by simp) (by simp [Value.ownBlock]) HT.out.1; clear hg1 hb1')
                        | (refine step_apps (by rfl) _ _ (by rfl) X.heap.size _ [] (by rfl) ((own_s0 (X.alloc (.cells #[.string (Em.str nm)] 9)) (by simp) (by simp)).below ((Below.refl _ _).drew)) _ (([] : List (List Int)).take 0) (by rfl) (HXO.out _ HL.out.2.2.2.drew).1 (by simp <;> omega) (by simp <;> omega) ?_; intro v1 w1 o1 hg1 hb1'; have hb1 : Below X.heap.size X w1 := HL.out.2.2.2.drew.trans hb1'; have hl1 : IsStrs w1 (.slice (some ⟨X.heap.size, 0, none⟩) 1 1) [nm] := lit_grown hg1 (by simp) (by simp [Value.ownBlock]) HT.out.1; clear hg1 hb1')
                        | (refine step_apps (by rfl) _ _ (by rfl) X.heap.size _ ([] ++ ([] : List (List Int)).take 0) (by rfl) o1 _ [nm] (by rfl) hl1 (by simp <;> omega) hb1.size ?_; intro v2 w2 o2 hg2 hb2'; have hb2 : Below X.heap.size X w2 := hb1.trans hb2'; clear hg2 hb2' hl1 o1)
                        | (refine step_apps (by rfl) _ _ (by rfl) X.heap.size _ ([] ++ ([] : List (List Int)).take 0) (by rfl) (OwnStrs.below o1 ((Below.refl _ _).alloc (Nat.le_refl _) _)) _ [nm] (by rfl) (lit_new w1 nm HT.out.1) (by simp <;> omega) (by have := hb1.size; simp; omega) ?_; intro v2 w2 o2 hg2 hb2'; have hb2 : Below X.heap.size X w2 := (hb1.alloc hb1.size _).trans hb2'; clear hg2 hb2' o1)
                        | (refine step_apps (by rfl) _ _ (by rfl) X.heap.size _ ([] ++ ([] : List (List Int)).take 0 ++ [nm]) (by rfl) o2 _ (([] : List (List Int)).drop 0) (by rfl) (HXO.out _ hb2).2 (by simp <;> omega) hb2.size ?_; intro v3 w3 o3 hg3 hb3'; have hb3 : Below X.heap.size X w3 := hb2.trans hb3'; clear hg3 hb3' o2)))
                    all_goals
                      simp only [List.getElem_toArray, List.getElem_cons_succ, List.getElem_cons_zero]
                      go_wp2_with fail
                      go_meet
                      refine ⟨?_, HBX.out.keep hb3⟩
                      have hfin : [] ++ ([] : List (List Int)).take 0 ++ [nm] ++ ([] : List (List Int)).drop 0 = Em5.own op nm bound [] := by rw [HIN.out, Em5.ins, HPL.out]; rfl
                      rw [hfin] at o3
                      exact OwnStrs.is o3 (Em5.own_mem HT.out.1 HQ.out.txt)
      case rest =>
        obtain ⟨hov, hbx⟩ := hcut
        have HFR : Hid (Em5.freeR (.mk op nm ar n p l) bound out = Em5.freeRs op nm ar 0 l bound (Em5.own op nm bound out)) := by rw [Hid, Em5.freeR]
        have HOL : Hid ((Em5.own op nm bound out).length ≤ out.length + 1) := Em5.own_len op nm bound out
        have HNS : Hid ((Em5.Nd.mk op nm ar n p l).size = Em5.sizes l + 1) := by rw [Hid, Em5.Nd.size]
        generalize Em5.own op nm bound out = own0 at hov HFR HOL
        clear HOWN hbox HBOX hbW k0 k1 k2 k3 k4 k5 hWz hq HB1 HB2 hol
        go_wp2_with fail
        go_loopw [2, 8] (fun u i wr => ∃ (j : Nat) (o : List (List Int)), j ≤ l.length ∧ i = .int .i64 j ∧ IsStrs wr u o ∧ Box w wr (.string (Em.str op)) (.string (Em.str nm)) (.string (Em.str ar)) (.int .i64 n) (.int .i64 p) (.slice a l.length cap) ∧ Hid (o.length ≤ out.length + 1 + Em5.sizes (l.take j)) ∧ Hid (Em5.freeR (.mk op nm ar n p l) bound out = Em5.freeRs op nm ar j (l.drop j) bound o)) (fun _ i _ => l.length - (intOf i).toNat)
        case atStart => exact ⟨0, own0, Nat.zero_le _, rfl, hov, hbx, by simp [Hid, Em5.sizes]; exact HOL.out, HFR.out⟩
        case round =>
          clear hov hbx HFR HOL
          obtain ⟨j, o, hj, rfl, hu2, hbx, HLO, HD⟩ := hrel
          have HBX : Hid (Box w wr (.string (Em.str op)) (.string (Em.str nm)) (.string (Em.str ar)) (.int .i64 n) (.int .i64 p) (.slice a l.length cap)) := hbx
          have HU : Hid (IsStrs wr u2 o) := hu2
          obtain ⟨hbw, k0, k1, k2, k3, k4, k5, hwz⟩ := hbx
          by_cases hlt : j < l.length
          · obtain ⟨b, off, rfl, hb, hat⟩ := HK.out (by omega)
            obtain ⟨t, ht⟩ : ∃ t, l[j]? = some t := ⟨_, List.getElem?_eq_getElem hlt⟩
            obtain ⟨c0, c1, c2, c3, c4, c5, m0, m1, m2, m3, m4, m5, kn⟩ := Em5.kidsAt_get l off j t hat ht
            have HN : Hid (∀ w', Below w.heap.size w w' → Em5.IsNd w' t (.agg #[c0, c1, c2, c3, c4, c5])) := fun w' h => Em5.isNd_below h t _ kn
            have HSX : Hid (∀ w', Below wr.heap.size wr w' → Below wr.heap.size wr w' ∧ w'.cell? ⟨w.heap.size, 0, none⟩ = some (.string (Em.str op)) ∧ w'.cell? ⟨w.heap.size, 1, none⟩ = some (.string (Em.str nm)) ∧ w'.cell? ⟨w.heap.size, 2, none⟩ = some (.string (Em.str ar)) ∧ w'.cell? ⟨w.heap.size, 3, none⟩ = some (.int .i64 n) ∧ w'.cell? ⟨w.heap.size, 4, none⟩ = some (.int .i64 p) ∧ w'.cell? ⟨w.heap.size, 5, none⟩ = some (.slice (some ⟨b, off, none⟩) l.length cap) ∧ w'.cell? ⟨b, off + j * 6, none⟩ = some c0 ∧ w'.cell? ⟨b, off + j * 6 + 1, none⟩ = some c1 ∧ w'.cell? ⟨b, off + j * 6 + 2, none⟩ = some c2 ∧ w'.cell? ⟨b, off + j * 6 + 3, none⟩ = some c3 ∧ w'.cell? ⟨b, off + j * 6 + 4, none⟩ = some c4 ∧ w'.cell? ⟨b, off + j * 6 + 5, none⟩ = some c5) := fun w' h => by
              have key : ∀ g o, g < wr.heap.size → w'.cell? ⟨g, o, none⟩ = wr.cell? ⟨g, o, none⟩ := fun g o hg => h.cell (p := ⟨g, o, none⟩) hg
              have key2 : ∀ o, wr.cell? ⟨b, o, none⟩ = w.cell? ⟨b, o, none⟩ := fun o => hbw.cell (p := ⟨b, o, none⟩) hb
              have hbr : b < wr.heap.size := Nat.lt_of_lt_of_le hb hbw.size
              refine ⟨h, ?_, ?_, ?_, ?_, ?_, ?_, ?_, ?_, ?_, ?_, ?_, ?_⟩
              · rw [key _ _ hwz]; exact k0
              · rw [key _ _ hwz]; exact k1
              · rw [key _ _ hwz]; exact k2
              · rw [key _ _ hwz]; exact k3
              · rw [key _ _ hwz]; exact k4
              · rw [key _ _ hwz]; exact k5
              · rw [key _ _ hbr, key2]; exact m0
              · rw [key _ _ hbr, key2]; exact m1
              · rw [key _ _ hbr, key2]; exact m2
              · rw [key _ _ hbr, key2]; exact m3
              · rw [key _ _ hbr, key2]; exact m4
              · rw [key _ _ hbr, key2]; exact m5
            have HVX : Hid (∀ w', Below wr.heap.size wr w' → Em5.IsNd w' (.mk op nm ar n p l) (.agg #[.string (Em.str op), .string (Em.str nm), .string (Em.str ar), .int .i64 n, .int .i64 p, .slice (some ⟨b, off, none⟩) l.length cap])) := fun w' h => HV.out w' (HBX.out.1.trans (h.mono HBX.out.1.size))
            have HBD : Hid (∀ w', Below wr.heap.size wr w' → IsStrs w' bv bound) := fun w' h => HB.out w' (HBX.out.1.trans (h.mono HBX.out.1.size))
            have HTT : Hid (l[j]? = some t) := ht
            have HBM : Hid (∀ x ∈ Em5.bindsL op nm ar j, Em5.Txt x) := Em5.binds_mem HT.out.1 HT.out.2
            have HBN : Hid (∀ x ∈ bound, Em5.Txt x) := (HB.out _ HBX.out.1).txt
            have hbsz : bound.length ≤ 1000000 := by have := HSZ.out.1; omega
            have hbl2 := Em5.binds_len op nm ar j
            have LA : Hid (Below wr.heap.size wr (wr.alloc (.cells #[] 9))) := (Below.refl _ _).alloc (Nat.le_refl _) _
            have HS1 : Hid (2 * t.size + ([] ++ bound ++ Em5.bindsL op nm ar j).length ≤ 1000000) := by
              have h1 := HSZ.out.1
              have h2 := HNS.out
              have h3 := Em5.sizes_take l j t HTT.out
              have h4 := Em5.sizes_take_le l (j + 1)
              simp only [Hid, List.nil_append, List.length_append]
              omega
            have HS2 : Hid (t.size + o.length ≤ 1000000) := by
              have h1 := HSZ.out.2
              have h2 := HNS.out
              have h3 := Em5.sizes_take l j t HTT.out
              have h4 := Em5.sizes_take_le l (j + 1)
              have h5 := HLO.out
              rw [Hid]
              omega
            have hj1 : (0 : Int) ≤ (j : Int) := by omega
            have hj2 : (j : Int) < (l.length : Int) := by omega
            clear hu2 k0 k1 k2 k3 k4 m0 m1 m2 m3 m4 m5 kn hat ht hbw
            go_wp2_with fail
            clear k5
            go_region_held_law (fun w' => Below wr.heap.size wr w' ∧ w'.cell? ⟨w.heap.size, 0, none⟩ = some (.string (Em.str op)) ∧ w'.cell? ⟨w.heap.size, 1, none⟩ = some (.string (Em.str nm)) ∧ w'.cell? ⟨w.heap.size, 2, none⟩ = some (.string (Em.str ar)) ∧ w'.cell? ⟨w.heap.size, 3, none⟩ = some (.int .i64 n) ∧ w'.cell? ⟨w.heap.size, 4, none⟩ = some (.int .i64 p) ∧ w'.cell? ⟨w.heap.size, 5, none⟩ = some (.slice (some ⟨b, off, none⟩) l.length cap) ∧ w'.cell? ⟨b, off + j * 6, none⟩ = some c0 ∧ w'.cell? ⟨b, off + j * 6 + 1, none⟩ = some c1 ∧ w'.cell? ⟨b, off + j * 6 + 2, none⟩ = some c2 ∧ w'.cell? ⟨b, off + j * 6 + 3, none⟩ = some c3 ∧ w'.cell? ⟨b, off + j * 6 + 4, none⟩ = some c4 ∧ w'.cell? ⟨b, off + j * 6 + 5, none⟩ = some c5)
              (first | exact HSX.out _ (Below.refl _ _).drew | exact HSX.out _ LA.out.drew | exact HSX.out _ hb1 | exact HSX.out _ hbXB | exact HSX.out _ (hbXB.alloc hbXB.size _) | exact HSX.out _ hb2 | exact HSX.out _ hb3)
              ((first
                | (refine step_apps (by rfl) _ _ (by rfl) wr.heap.size _ [] (by rfl) ((own_s0 wr rfl (Nat.le_refl _)).below ((Below.refl _ _).drew)) _ bound (by rfl) (HBD.out _ LA.out.drew) (by simp <;> omega) (by simp) ?_; intro v1 w1 o1 hg1 hb1'; have hb1 : Below wr.heap.size wr w1 := LA.out.drew.trans hb1'; clear hg1 hb1')
                | (refine step_apps (by rfl) _ _ (by rfl) wr.heap.size _ [] (by rfl) oA _ bound (by rfl) (HBD.out _ hbXB) (by simp <;> omega) hbXB.size ?_; intro v1 w1 o1 hg1 hb1'; have hb1 : Below wr.heap.size wr w1 := hbXB.trans hb1'; have hl : IsStrs w1 ub (Em5.bindsL op nm ar j) := strs_grown obB HBM.out hg1 (Nat.lt_succ_self _); clear hg1 hb1' oA)
                | (refine step_apps (by rfl) _ _ (by rfl) wr.heap.size _ [] (by rfl) (own_s0 wB rfl hbXB.size) _ bound (by rfl) (HBD.out _ (hbXB.alloc hbXB.size _)) (by simp <;> omega) (by have := hbXB.size; simp; omega) ?_; intro v1 w1 o1 hg1 hb1'; have hb1 : Below wr.heap.size wr w1 := (hbXB.alloc hbXB.size _).trans hb1'; have hl : IsStrs w1 ub (Em5.bindsL op nm ar j) := strs_grown2 obB HBM.out hg1; clear hg1 hb1')
                | (refine step_apps (by rfl) _ _ (by rfl) wr.heap.size _ ([] ++ bound) (by rfl) (by first | exact o1' | exact o1) _ (Em5.bindsL op nm ar j) (by rfl) (by first | exact hl | exact obB.is HBM.out) (by simp <;> omega) (by first | exact hbXB.size | exact hb1.size) ?_; intro v2 w2 o2 hg2 hb2'; have hb2 : Below wr.heap.size wr w2 := (by first | exact hb1.trans hb2' | exact hbXB.trans hb2'); clear hg2 hb2')
                | (go_at_call 37; refine (rBinds_any (.mk op nm ar n p l) _ j _ (HVX.out _ hb1)).mono ?_; rintro e wB ⟨ub, rfl, obB, hbB⟩; have hbXB : Below wr.heap.size wr wB := hb1.trans (hbB.mono hb1.size); have o1' := OwnStrs.below o1 hbB)
                | (go_at_call 37; refine (rBinds_any (.mk op nm ar n p l) _ j _ (HVX.out _ LA.out.drew)).mono ?_; rintro e wB ⟨ub, rfl, obB, hbB⟩; have hbXB : Below wr.heap.size wr wB := LA.out.drew.trans (hbB.mono LA.out.drew.size); have oA := OwnStrs.below ((own_s0 wr rfl (Nat.le_refl _)).below ((Below.refl _ _).drew)) hbB)
                | (go_at_call 37; refine (rBinds_any (.mk op nm ar n p l) _ j _ (HVX.out _ (Below.refl _ _).drew)).mono ?_; rintro e wB ⟨ub, rfl, obB, hbB⟩; have hbXB : Below wr.heap.size wr wB := (Below.refl _ _).drew.trans hbB)
                | (go_at_call 26; refine (HI.out t (List.mem_of_getElem? HTT.out) _ _ _ _ o _ (HN.out _ (HBX.out.1.trans (hb2.mono HBX.out.1.size))) (OwnStrs.is o2 (strs_app HBN.out HBM.out)) (HU.out.below hb2) HS1.out HS2.out).mono ?_; rintro e w3 ⟨u3, rfl, hu3, hb3'⟩; have hb3 : Below wr.heap.size wr w3 := hb2.trans (hb3'.mono hb2.size))))
            go_wp2
            go_roundw
            case rel =>
              refine ⟨j + 1, Em5.freeR t ([] ++ bound ++ Em5.bindsL op nm ar j) o, by omega, by go_num, hu3, HBX.out.keep hb3, ?_, ?_⟩
              · have h1 := Em5.freeR_len t ([] ++ bound ++ Em5.bindsL op nm ar j) o
                have h2 := HLO.out
                rw [Hid, Em5.sizes_take l j t HTT.out]
                omega
              · have hd : l.drop j = t :: l.drop (j + 1) := by
                  have hjl := (List.getElem?_eq_some_iff.1 HTT.out).1
                  rw [List.drop_eq_getElem_cons hjl, (List.getElem?_eq_some_iff.1 HTT.out).2]
                rw [Hid, HD.out, hd, Em5.freeRs, List.nil_append]
            case measure => simp [intOf]; omega
          · have HE : Hid (Em5.freeR (.mk op nm ar n p l) bound out = o) := by rw [Hid, HD.out, List.drop_eq_nil_of_le (by omega), Em5.freeRs]
            go_wp2
            go_ret
            exact ⟨_, rfl, by rw [HE.out]; exact HU.out, HBX.out.1⟩

set_option maxRecDepth 100000 in
set_option maxHeartbeats 1000000 in
theorem rFree_any (T : Em5.Nd) (v : Value) (w : World) (hv : Em5.IsNd w T v) (hs : T.size ≤ 2000) :
    Calls Tryd.prog 16 #[v] w fun e w' => ∃ u, e = .returned u ∧ IsStrs w' u (Em5.freeR T [] []) ∧ Below w.heap.size w w' := by
  have HV : Hid (∀ w', Below w.heap.size w w' → Em5.IsNd w' T v) := fun w' h => Em5.isNd_below h _ _ hv
  obtain ⟨op, nm, ar, n, p, l⟩ := T
  unfold Em5.IsNd at hv
  obtain ⟨a, cap, rfl, -⟩ := hv
  have hbel : Below w.heap.size w (w.alloc (.cells #[.string (Em.str op), .string (Em.str nm), .string (Em.str ar), .int .i64 n, .int .i64 p, .slice a l.length cap] 24)) := (Below.refl _ _).alloc (Nat.le_refl _) _
  have HBE : Hid (Below w.heap.size w (w.alloc (.cells #[.string (Em.str op), .string (Em.str nm), .string (Em.str ar), .int .i64 n, .int .i64 p, .slice a l.length cap] 24))) := hbel
  have HSI : Hid ((Em5.Nd.mk op nm ar n p l).size ≤ 2000) := hs
  clear hs hbel
  go_enter Tryd.func16, Tryd.ntmps16
  go_wp2_with fail
  refine (rfree_any _ _ _ _ [] [] _ (HV.out _ HBE.out) (IsStrs.nil _) (IsStrs.nil _) (by have := HSI.out; simp; omega) (by have := HSI.out; simp; omega)).mono ?_
  rintro e w1 ⟨u, rfl, hu, hb1⟩
  go_wp2
  go_ret
  exact ⟨u, rfl, hu, HBE.out.trans (hb1.mono HBE.out.size)⟩
end Go.Proofs.YtlniokcekjemdaaDoor

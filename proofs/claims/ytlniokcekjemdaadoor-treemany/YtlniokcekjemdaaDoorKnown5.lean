/- What the law's own 'known' answers: true. -/
import Derived.Test.YtlniokcekjemdaaDoorTreeF
import Derived.Test.YtlniokcekjemdaaDoorTreeW
import Derived.Test.YtlniokcekjemdaaDoorTreeV
import Derived.Test.YtlniokcekjemdaaDoorRTreeR
namespace Go.Proofs.YtlniokcekjemdaaDoor
open Go.RowKit
set_option linter.unusedSimpArgs false

def kY : Em5.Nd := .mk [118, 97, 114] [121] [] 0 0 []
def kX : Em5.Nd := .mk [118, 97, 114] [120] [] 0 0 []
def kA : Em5.Nd := .mk [97, 112, 112] [] [] 0 0 [kY, kX]
def kN : Em5.Nd := .mk [102, 117, 110] [120] [] 0 0 [kA]
theorem k_is : Em5.isNd kN = true := by decide
theorem k_each : Em5.each kN = true := by decide
theorem k_free : Em5.freeR kN [] [] = [[121]] := by rfl
theorem k_size : kN.size = 4 := by rfl
theorem k_val : Em5.isVal kN = true := by rfl
theorem txt_of {L : List Int} (h : (L.all fun x => decide (0 ≤ x) && decide (x ≤ 255)) = true) (hl : L.length ≤ 140737488351232) : Em5.Txt L :=
  ⟨fun x hx => by have := List.all_eq_true.1 h x hx; simpa using this, hl⟩
/-- The expression of 'known', as it was built. -/
def kV (g : Nat) : Value := .agg #[.string (Em.str [102, 117, 110]), .string (Em.str [120]), .string (Em.str []), .int .i64 0, .int .i64 0, .slice (some ⟨g + 1, 0, none⟩) 1 1]
def kW (w : World) : World := (w.alloc (.cells #[.string (Em.str [118, 97, 114]), .string (Em.str [121]), .string (Em.str []), .int .i64 0, .int .i64 0, .slice none 0 0, .string (Em.str [118, 97, 114]), .string (Em.str [120]), .string (Em.str []), .int .i64 0, .int .i64 0, .slice none 0 0] 24)).alloc
  (.cells #[.string (Em.str [97, 112, 112]), .string (Em.str []), .string (Em.str []), .int .i64 0, .int .i64 0, .slice (some ⟨w.heap.size, 0, none⟩) 2 2] 24)
theorem kW_size (w : World) : (kW w).heap.size = w.heap.size + 2 := by simp [kW]
theorem kW_below (w : World) : Below w.heap.size w (kW w) := ((Below.refl _ _).alloc (Nat.le_refl _) _).alloc (by simp) _
theorem isNd_leaf (w : World) {op nm : List Int} (h1 : Em5.Txt op) (h2 : Em5.Txt nm) : Em5.IsNd w (.mk op nm [] 0 0 []) (.agg #[.string (Em.str op), .string (Em.str nm), .string (Em.str []), .int .i64 0, .int .i64 0, .slice none 0 0]) := by
  unfold Em5.IsNd
  exact ⟨none, 0, rfl, h1, h2, ⟨by simp, by simp⟩, by simp [Em5.I64], by simp [Em5.I64], by simp, by omega, by simp⟩
theorem k_nd (w : World) : Em5.IsNd (kW w) kN (kV w.heap.size) := by
  have ha : ∀ o, (kW w).cell? ⟨w.heap.size, o, none⟩ = (w.alloc (.cells #[.string (Em.str [118, 97, 114]), .string (Em.str [121]), .string (Em.str []), .int .i64 0, .int .i64 0, .slice none 0 0, .string (Em.str [118, 97, 114]), .string (Em.str [120]), .string (Em.str []), .int .i64 0, .int .i64 0, .slice none 0 0] 24)).cell? ⟨w.heap.size, o, none⟩ := fun o => by
    unfold kW
    exact ((Below.refl _ _).alloc (Nat.le_refl _) _).cell (p := ⟨w.heap.size, o, none⟩) (by simp)
  have tv : Em5.Txt [118, 97, 114] := txt_of (by decide) (by decide)
  have tf : Em5.Txt [102, 117, 110] := txt_of (by decide) (by decide)
  have tp : Em5.Txt [97, 112, 112] := txt_of (by decide) (by decide)
  have ty : Em5.Txt [121] := txt_of (by decide) (by decide)
  have tx : Em5.Txt [120] := txt_of (by decide) (by decide)
  have te : Em5.Txt [] := txt_of (by decide) (by decide)
  have i0 : Em5.I64 0 := by simp [Em5.I64]
  have hA : Em5.IsNd (kW w) kA (.agg #[.string (Em.str [97, 112, 112]), .string (Em.str []), .string (Em.str []), .int .i64 0, .int .i64 0, .slice (some ⟨w.heap.size, 0, none⟩) 2 2]) := by
    unfold kA Em5.IsNd
    refine ⟨some ⟨w.heap.size, 0, none⟩, 2, rfl, tp, te, te, i0, i0, by simp, by omega, fun _ => ⟨w.heap.size, 0, rfl, by rw [kW_size]; omega, ?_⟩⟩
    unfold Em5.KidsAt
    refine ⟨⟨_, _, _, _, _, _, by rw [ha]; simp, by rw [ha]; simp, by rw [ha]; simp, by rw [ha]; simp, by rw [ha]; simp, by rw [ha]; simp, isNd_leaf _ tv ty⟩, ?_⟩
    unfold Em5.KidsAt
    refine ⟨⟨_, _, _, _, _, _, by rw [ha]; simp, by rw [ha]; simp, by rw [ha]; simp, by rw [ha]; simp, by rw [ha]; simp, by rw [ha]; simp, isNd_leaf _ tv tx⟩, ?_⟩
    unfold Em5.KidsAt
    trivial
  unfold kN kV Em5.IsNd
  refine ⟨some ⟨w.heap.size + 1, 0, none⟩, 1, rfl, tf, tx, te, i0, i0, by simp, by omega, fun _ => ⟨w.heap.size + 1, 0, rfl, by rw [kW_size]; omega, ?_⟩⟩
  unfold Em5.KidsAt
  have hb : ∀ o v, (#[Value.string (Em.str [97, 112, 112]), .string (Em.str []), .string (Em.str []), .int .i64 0, .int .i64 0, .slice (some ⟨w.heap.size, 0, none⟩) 2 2] : Array Value)[o]? = some v → (kW w).cell? ⟨w.heap.size + 1, o, none⟩ = some v := fun o v h => by
    unfold kW
    have e : w.heap.size + 1 = (w.alloc (.cells #[.string (Em.str [118, 97, 114]), .string (Em.str [121]), .string (Em.str []), .int .i64 0, .int .i64 0, .slice none 0 0, .string (Em.str [118, 97, 114]), .string (Em.str [120]), .string (Em.str []), .int .i64 0, .int .i64 0, .slice none 0 0] 24)).heap.size := by simp
    rw [e, World.cell?_alloc_mark, h]
  refine ⟨⟨_, _, _, _, _, _, hb 0 _ rfl, hb 1 _ rfl, hb 2 _ rfl, hb 3 _ rfl, hb 4 _ rfl, hb 5 _ rfl, hA⟩, ?_⟩
  unfold Em5.KidsAt
  trivial

set_option maxRecDepth 100000 in
set_option maxHeartbeats 2000000 in
theorem known5_any (w : World) (hg : IsSigns w) : Calls Tryd.prog 13 #[] w fun e w' => e = .returned (.bool true) ∧ Below w.heap.size w w' := by
  have HSG : Hid (∀ w', Below w.heap.size w w' → IsSigns w') := fun w' h => hg.below h hg.lt
  have e0 : ((w.alloc (.cells #[.string ⟨#[118, 97, 114]⟩, .string ⟨#[121]⟩, .string ⟨#[]⟩, .int .i64 0, .int .i64 0, .slice none 0 0, .string ⟨#[118, 97, 114]⟩, .string ⟨#[120]⟩, .string ⟨#[]⟩, .int .i64 0, .int .i64 0, .slice none 0 0] 24)).alloc
    (.cells #[.string ⟨#[97, 112, 112]⟩, .string ⟨#[]⟩, .string ⟨#[]⟩, .int .i64 0, .int .i64 0, .slice (some ⟨w.heap.size, 0, none⟩) 2 2] 24)) = kW w := rfl
  obtain ⟨W, hW⟩ : ∃ W, W = (kW w).alloc (.cells #[.string ⟨#[102, 117, 110]⟩, .string ⟨#[120]⟩, .string ⟨#[]⟩, .int .i64 0, .int .i64 0, .slice (some ⟨w.heap.size + 1, 0, none⟩) 1 1] 24) := ⟨_, rfl⟩
  have hkb := kW_below w
  have hb1 : Below (kW w).heap.size (kW w) W := by rw [hW]; exact (Below.refl _ _).alloc (Nat.le_refl _) _
  have hbW : Below w.heap.size w W := hkb.trans (hb1.mono hkb.size)
  have h6 : Node6 W (kW w).heap.size (.string ⟨#[102, 117, 110]⟩) (.string ⟨#[120]⟩) (.string ⟨#[]⟩) (.int .i64 0) (.int .i64 0) (.slice (some ⟨w.heap.size + 1, 0, none⟩) 1 1) := by rw [hW]; exact Node6.made _ _ _ _ _ _ _ _
  have hnd : Em5.IsNd W kN (.agg #[.string ⟨#[102, 117, 110]⟩, .string ⟨#[120]⟩, .string ⟨#[]⟩, .int .i64 0, .int .i64 0, .slice (some ⟨w.heap.size + 1, 0, none⟩) 1 1]) := Em5.isNd_below hb1 _ _ (k_nd w)
  have HN : Hid (∀ w', Below W.heap.size W w' → Em5.IsNd w' kN (.agg #[.string ⟨#[102, 117, 110]⟩, .string ⟨#[120]⟩, .string ⟨#[]⟩, .int .i64 0, .int .i64 0, .slice (some ⟨w.heap.size + 1, 0, none⟩) 1 1])) := fun w' h => Em5.isNd_below h _ _ hnd
  have H6 : Hid (∀ w', Below W.heap.size W w' → Node6 w' (kW w).heap.size (.string ⟨#[102, 117, 110]⟩) (.string ⟨#[120]⟩) (.string ⟨#[]⟩) (.int .i64 0) (.int .i64 0) (.slice (some ⟨w.heap.size + 1, 0, none⟩) 1 1)) := fun w' h => h6.bes (mb := (kW w).heap.size + 1) (mf := (kW w).heap.size + 1) (Bes2.of h) (by omega) (by omega)
  have HW : Hid (W.heap.size = W.heap.size ∧ Below w.heap.size w W) := ⟨rfl, hbW⟩
  have HWE : Hid ((kW w).alloc (.cells #[.string ⟨#[102, 117, 110]⟩, .string ⟨#[120]⟩, .string ⟨#[]⟩, .int .i64 0, .int .i64 0, .slice (some ⟨w.heap.size + 1, 0, none⟩) 1 1] 24) = W) := hW.symm
  clear hg hkb hb1 hbW h6 hnd hW
  go_enter Tryd.func13, Tryd.ntmps13
  go_wp2_with fail
  rw [HWE.out]
  clear HWE e0
  refine (tIs_any kN _ _ (HN.out _ (Below.refl _ _)) (HSG.out _ HW.out.2)).mono ?_
  rintro e w1 ⟨rfl, hb1⟩
  rw [k_is]
  obtain ⟨x0, x1, x2, x3, x4, x5⟩ := H6.out _ hb1
  go_wp2_with fail
  refine (tFree_any kN _ _ (HN.out _ hb1) k_each (by rw [k_size]; omega)).mono ?_
  rintro e w2 ⟨u, rfl, hown, htx, hb2⟩
  rw [k_free] at hown htx
  have hb2' : Below W.heap.size W w2 := hb1.trans (hb2.mono hb1.size)
  have his : IsStrs w2 u [[121]] := hown.is htx
  have his3 := his.below ((Below.refl w2.heap.size w2).alloc (Nat.le_refl _) (.cells #[.string (Em.str [121])] 9))
  have hlit : IsStrs (w2.alloc (.cells #[.string (Em.str [121])] 9)) (.slice (some ⟨w2.heap.size, 0, none⟩) 1 1) [[121]] := (own_s1 w2 rfl (Nat.le_refl _) [121]).is htx
  obtain ⟨ua, uc, rfl⟩ := hown.form
  have H3 : Hid (IsStrs (w2.alloc (.cells #[.string (Em.str [121])] 9)) (.slice ua [[121]].length uc) [[121]] ∧ IsStrs (w2.alloc (.cells #[.string (Em.str [121])] 9)) (.slice (some ⟨w2.heap.size, 0, none⟩) 1 1) [[121]] ∧ Below W.heap.size W (w2.alloc (.cells #[.string (Em.str [121])] 9))) := ⟨his3, hlit, hb2'.alloc hb2'.size _⟩
  clear x0 x1 x2 x3 x4 x5 hown htx hb2 his his3 hlit hb1 hb2'
  go_wp2_with fail
  refine (rRows_any _ _ _ _ _ H3.out.1 H3.out.2.1).mono ?_
  rintro e w3 ⟨rfl, hb3⟩
  rw [decide_eq_true rfl]
  have hb3' : Below W.heap.size W w3 := H3.out.2.2.trans (hb3.mono H3.out.2.2.size)
  clear hb3 H3
  obtain ⟨x0, x1, x2, x3, x4, x5⟩ := H6.out _ hb3'
  go_wp2_with fail
  refine (tSize_any kN _ _ (HN.out _ hb3')).mono ?_
  rintro e w4 ⟨rfl, hb4⟩
  have ez : ((min kN.size 2001 : Nat) : Int) = 4 := by rw [k_size]; rfl
  rw [ez]
  have hb4' : Below W.heap.size W w4 := hb3'.trans (hb4.mono hb3'.size)
  clear hb4 hb3' x0 x1 x2 x3 x4 x5 ez
  obtain ⟨x0, x1, x2, x3, x4, x5⟩ := H6.out _ hb4'
  go_wp2_with fail
  refine (tIsValue_any kN _ _ (HN.out _ hb4')).mono ?_
  rintro e w5 ⟨rfl, hb5⟩
  rw [k_val]
  have hb5' : Below w.heap.size w w5 := HW.out.2.trans ((hb4'.trans (hb5.mono hb4'.size)).mono HW.out.2.size)
  clear hb5 hb4' x0 x1 x2 x3 x4 x5
  go_wp2
  go_ret
  exact ⟨rfl, hb5'⟩
end Go.Proofs.YtlniokcekjemdaaDoor

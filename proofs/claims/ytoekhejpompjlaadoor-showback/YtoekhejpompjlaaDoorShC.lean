/- What the program's own show.Text answers: an expression's text; of what is none, nothing. -/
import Derived.Test.YtoekhejpompjlaaDoorShW
import Derived.Test.YtoekhejpompjlaaDoorLay7
import Derived.Test.YtoekhejpompjlaaDoorTreeW
import Derived.Shelf.Strings.BuilderK
import Derived.Shelf.Strconv.Itoa4
import Derived.Lib.AppendIntMem
namespace Go.Proofs.YtoekhejpompjlaaDoor
open Go.RowKit
set_option linter.unusedSimpArgs false
set_option linter.unusedVariables false

theorem dec_digs (m : Nat) : m ≤ 9223372036854775807 → Lib.decDigits m = (Em7.digs m).map fun n => UInt8.ofNat n.toNat := by
  induction m using Nat.strongRecOn with
  | ind m ih =>
    intro hm
    rw [Lib.decDigits]
    by_cases h10 : m < 10
    · rw [dif_pos h10, Em7.digs_lt h10, Nat.mod_eq_of_lt h10]
      have e : ((48 : Int) + ((m : Nat) : Int)).toNat = 48 + m := by omega
      simp [e]
    · have e : ((48 : Int) + ((m % 10 : Nat) : Int)).toNat = 48 + m % 10 := by omega
      rw [dif_neg h10, Em7.digs_ge h10 hm, ih (m / 10) (by omega) (by omega), List.map_append, List.map_cons, List.map_nil, e]
theorem itoa_digs (m : Nat) (hm : m ≤ 9223372036854775807) : (⟨(Lib.itoa (m : Int)).toArray⟩ : ByteArray) = Em.str (Em7.digs m) := by
  rw [Lib.itoa, if_neg (by omega), Int.toNat_natCast, dec_digs m hm]
  rfl

/-- strconv.FormatInt to the base 10, of what a numeral may be. -/
theorem formats_any : Formats := by
  intro m w hm hp
  refine (Any.strconv_FormatInt_10 Tryd.laysM173 (m : Int) (by omega) (by omega) w hp).mono ?_
  rintro e w' ⟨rfl, k, os, rfl⟩
  exact ⟨by rw [itoa_digs m (by omega)], Lib.below_grow _ _ (Nat.le_refl _) _ _⟩
theorem bstring_any (L : List Int) (B b : Nat) (w : World) (h : Bld B b L w) (hB : B ≤ w.heap.size) :
    Calls Tryd.prog 18 #[.pointer (some ⟨b, 0, none⟩)] w fun e w' => e = .returned (.string (Em.str L)) ∧ Below B w w' := by
  refine (Any.Builder_String_any_k Tryd.lays169 Tryd.Builder_Extra_169 B b (Em.str L).data.toList w h hB).mono ?_
  rintro e w' ⟨rfl, h1, h2, h3⟩
  exact ⟨rfl, h2⟩
/-- What the tables that the program reads hold. -/
def IsLaid (w : World) : Prop := IsSigns w ∧ IsPow w
theorem IsLaid.below {w w' : World} (h : IsLaid w) (hb : Below w.heap.size w w') : IsLaid w' := ⟨h.1.below hb h.1.lt, h.2.below hb⟩
/-- Its text; of what is no expression, nothing. -/
def shown (T : Em5.Nd) : List Int := if Em5.isNd T = true then Em7.text T else []

set_option maxRecDepth 100000 in
set_option maxHeartbeats 4000000 in
theorem ptext_any (T : Em5.Nd) (v : Value) (w : World) (hv : Em5.IsNd w T v) (hl : IsLaid w) :
    Calls Tryd.prog 9 #[v] w fun e w' => e = .returned (.string (Em.str (shown T))) ∧ Below w.heap.size w w' := by
  have HL : Hid (∀ w', Below w.heap.size w w' → IsLaid w') := fun w' h => hl.below h
  have HV : Hid (∀ w', Below w.heap.size w w' → Em5.IsNd w' T v) := fun w' h => Em5.isNd_below h _ _ hv
  obtain ⟨op, nm, ar, n, p, l⟩ := T
  unfold Em5.IsNd at hv
  obtain ⟨a, cap, rfl, -⟩ := hv
  obtain ⟨W, hW⟩ : ∃ W, W = w.alloc (.cells #[.string (Em.str op), .string (Em.str nm), .string (Em.str ar), .int .i64 n, .int .i64 p, .slice a l.length cap] 24) := ⟨_, rfl⟩
  have hbW : Below w.heap.size w W := by rw [hW]; exact (Below.refl _ _).alloc (Nat.le_refl _) _
  have hWz : w.heap.size < W.heap.size := by rw [hW]; simp
  have g0 : W.cell? ⟨w.heap.size, 0, none⟩ = some (.string (Em.str op)) := by rw [hW]; simp
  have g1 : W.cell? ⟨w.heap.size, 1, none⟩ = some (.string (Em.str nm)) := by rw [hW]; simp
  have g2 : W.cell? ⟨w.heap.size, 2, none⟩ = some (.string (Em.str ar)) := by rw [hW]; simp
  have g3 : W.cell? ⟨w.heap.size, 3, none⟩ = some (.int .i64 n) := by rw [hW]; simp
  have g4 : W.cell? ⟨w.heap.size, 4, none⟩ = some (.int .i64 p) := by rw [hW]; simp
  have g5 : W.cell? ⟨w.heap.size, 5, none⟩ = some (.slice a l.length cap) := by rw [hW]; simp
  have HW : Hid (w.alloc (.cells #[.string (Em.str op), .string (Em.str nm), .string (Em.str ar), .int .i64 n, .int .i64 p, .slice a l.length cap] 24) = W) := hW.symm
  obtain ⟨T, hT⟩ : ∃ T, T = Em5.Nd.mk op nm ar n p l := ⟨_, rfl⟩
  rw [← hT] at HV ⊢
  clear hW hl hT
  go_enter Tryd.func9, Tryd.ntmps9
  go_wp2_with fail
  rw [HW.out]
  refine (tIs_any T _ _ (HV.out _ hbW) (HL.out _ hbW).1).mono ?_
  rintro e w1 ⟨rfl, hb1⟩
  have hbel1 : Below w.heap.size w w1 := hbW.trans (hb1.mono hbW.size)
  have key : ∀ o, w1.cell? ⟨w.heap.size, o, none⟩ = W.cell? ⟨w.heap.size, o, none⟩ := fun o => hb1.cell (p := ⟨w.heap.size, o, none⟩) hWz
  rw [← key] at g0 g1 g2 g3 g4 g5
  clear key hb1 hbW hWz HW
  cases hi : Em5.isNd T with
  | false =>
    have HR : Hid (shown T = []) := by rw [Hid, shown, hi]; rfl
    clear hi
    go_wp2_with fail
    go_ret
    exact ⟨by rw [HR.out]; rfl, hbel1⟩
  | true =>
    have HR : Hid (shown T = Em7.text T) := by rw [Hid, shown, hi]; rfl
    have hie := hi
    unfold Em5.isNd at hie
    simp only [Bool.and_eq_true, decide_eq_true_eq] at hie
    have HE : Hid (Em5.each T = true) := hie.2
    have HLN : Hid (([] : List Int).length + (Em7.text T).length ≤ 1000000000) := by
      have := Em7.text_len T hie.2
      rw [Hid]; simp only [List.length_nil]; omega
    clear hi hie
    obtain ⟨X, hX⟩ : ∃ X, X = w1.alloc (.cells #[.pointer none, .slice none 0 0] 37) := ⟨_, rfl⟩
    have hlt1 : w.heap.size < w1.heap.size := Em.cell_lt g0
    have hbX : Below w1.heap.size w1 X := by rw [hX]; exact (Below.refl _ _).alloc (Nat.le_refl _) _
    have HBX : Hid (Below w1.heap.size w1 X) := hbX
    have HB : Hid (Bld w1.heap.size w1.heap.size [] X) := by rw [Hid, hX]; exact Lib.IsBuilderF.of (Lib.fresh_isBuilder _ _ w1)
    have HX : Hid (w1.alloc (.cells #[.pointer none, .slice none 0 0] 37) = X) := hX.symm
    have HB1 : Hid (Below w.heap.size w w1) := hbel1
    have HVT : Hid (Em5.IsNd w1 T (.agg #[.string (Em.str op), .string (Em.str nm), .string (Em.str ar), .int .i64 n, .int .i64 p, .slice a l.length cap])) := HV.out _ hbel1
    have HLP : Hid (IsPow w1) := (HL.out _ hbel1).2
    clear hX hbX hbel1
    go_wp2_with fail
    rw [HX.out]
    clear HX
    refine (pwrite_any formats_any writes_any T _ w1 _ w1.heap.size [] HVT.out HE.out HBX.out HLP.out HB.out HLN.out).mono ?_
    rintro e w2 ⟨rfl, hB2, hb2, -⟩
    rw [List.nil_append] at hB2
    have HB2 : Hid (Bld w1.heap.size w1.heap.size (Em7.text T) w2) := hB2
    have HBL2 : Hid (Below w1.heap.size w1 w2) := HBX.out.trans hb2
    clear g0 g1 g2 g3 g4 g5 hB2 hb2 hlt1
    go_wp2_with fail
    refine (bstring_any (Em7.text T) w1.heap.size w1.heap.size _ HB2.out HBL2.out.size).mono ?_
    rintro e w3 ⟨rfl, hb3⟩
    have HBL3 : Hid (Below w.heap.size w w3) := HB1.out.trans ((HBL2.out.trans hb3).mono HB1.out.size)
    clear hb3
    go_wp2_with fail
    go_ret
    exact ⟨by rw [HR.out]; rfl, HBL3.out⟩
end Go.Proofs.YtoekhejpompjlaaDoor

/- TypOdd: nine things that are no types are told to be none, whatever the number that chooses among them; int and a var of a great number are types. No condition but that the tables that the program reads hold what their initialisers lay, to which the card ties them. -/
import Derived.Test.YtcpimmapdhmoiaaDoorRows
import Derived.Test.YtcpimmapdhmoiaaDoorCards
import Derived.Test.YtcpimmapdhmoiaaDoorTie
import Derived.Test.YtcpimmapdhmoiaaDoorLaid8
import Derived.Test.YtcpimmapdhmoiaaDoorKnown8
import Derived.Test.YtcpimmapdhmoiaaDoorFrame
namespace Go.Proofs.YtcpimmapdhmoiaaDoor
open Go.ChangeShapes Go.WideShapes Go.ChangeAt Go.RowKit Go.Em8
set_option linter.unusedVariables false
set_option linter.unusedSimpArgs false

theorem isTys_alloc {w : World} {l : List Ty} {cs : List (Value × Value × Value)} (hl : cs.length = l.length) (h : ∀ (j : Nat) t c, l[j]? = some t → cs[j]? = some c → IsTy w t (.agg #[c.1, c.2.1, c.2.2])) (hm : l.length ≤ 9223372036854775807) (ty : TypeId) :
    IsTys (w.alloc (.cells (flat3 cs).toArray ty)) (.slice (some ⟨w.heap.size, 0, none⟩) l.length l.length) l := by
  have hb : Below w.heap.size w (w.alloc (.cells (flat3 cs).toArray ty)) := (Below.refl _ _).alloc (Nat.le_refl _) _
  refine ⟨_, l.length, rfl, Nat.le_refl _, hm, fun _ => ⟨w.heap.size, 0, rfl, by simp, tysAt_mk l 0 fun j t hj => ?_⟩⟩
  have hjl := (List.getElem?_eq_some_iff.1 hj).1
  obtain ⟨c, hc⟩ : ∃ c, cs[j]? = some c := ⟨_, List.getElem?_eq_getElem (by omega)⟩
  obtain ⟨e1, e2, e3⟩ := flat3_get cs j c hc
  have key : ∀ o u, (flat3 cs)[o]? = some u → (w.alloc (.cells (flat3 cs).toArray ty)).cell? ⟨w.heap.size, o, none⟩ = some u := fun o u ho => by
    rw [Lib.cell_of_heap (heap_new w _)]
    simpa using ho
  rw [Nat.zero_add]
  exact ⟨_, _, _, key _ _ e1, key _ _ e2, key _ _ e3, isTy_below hb _ _ (h j t c hj hc)⟩

def o8Int : Ty := .mk tInt 0 []
def o8L : List Ty := [.mk [] 0 [], .mk tList 0 [], .mk tInt 1 [], .mk tVar (-1) [], .mk tPair 0 [o8Int], .mk tFun 0 [o8Int, o8Int, o8Int], .mk tRef 2 [o8Int], .mk tList 0 [.mk [115, 101, 116] 0 []], .mk tCell 0 [o8Int]]
theorem o8_all : (o8L.all fun t => !isTy t) = true := by decide +kernel
theorem o8_no {j : Nat} {t : Ty} (h : o8L[j]? = some t) : isTy t = false := by
  have := List.all_eq_true.1 o8_all t (List.mem_of_getElem? h)
  simpa using this
theorem o8_int : isTy o8Int = true := by decide +kernel
theorem o8_var : isTy (.mk tVar 1099511627776 []) = true := by decide +kernel
abbrev nCells : Value × Value × Value := (.string ⟨#[105, 110, 116]⟩, .int .i64 0, .slice none 0 0)
def o8C (h : Nat) : List (Value × Value × Value) := [(.string ⟨#[]⟩, .int .i64 0, .slice none 0 0), (.string ⟨#[108, 105, 115, 116]⟩, .int .i64 0, .slice none 0 0), (.string ⟨#[105, 110, 116]⟩, .int .i64 1, .slice none 0 0), (.string ⟨#[118, 97, 114]⟩, .int .i64 (-1), .slice none 0 0),
  (.string ⟨#[112, 97, 105, 114]⟩, .int .i64 0, .slice (some ⟨h + 1, 0, none⟩) 1 1), (.string ⟨#[102, 117, 110]⟩, .int .i64 0, .slice (some ⟨h + 2, 0, none⟩) 3 3), (.string ⟨#[114, 101, 102]⟩, .int .i64 2, .slice (some ⟨h + 3, 0, none⟩) 1 1), (.string ⟨#[108, 105, 115, 116]⟩, .int .i64 0, .slice (some ⟨h + 4, 0, none⟩) 1 1), (.string ⟨#[99, 101, 108, 108]⟩, .int .i64 0, .slice (some ⟨h + 5, 0, none⟩) 1 1)]

theorem leaf8 (w : World) (op : List Int) (b : ByteArray) (hb : b = Em.str op) (n : Int) (ho : Em5.Txt op) (hn : Em5.I64 n) : IsTy w (.mk op n []) (.agg #[.string b, .int .i64 n, .slice none 0 0]) := by
  subst hb; exact isTy_leaf w ho hn
theorem node8 {w : World} {a : Option Addr} {k c : Nat} {l : List Ty} (h : IsTys w (.slice a k c) l) (op : List Int) (b : ByteArray) (hb : b = Em.str op) (n : Int) (ho : Em5.Txt op) (hn : Em5.I64 n) : IsTy w (.mk op n l) (.agg #[.string b, .int .i64 n, .slice a k c]) := by
  subst hb; exact IsTys.mk h ho hn
theorem txt8 {op : List Int} (h1 : ∀ x ∈ op, 0 ≤ x ∧ x ≤ 255) (h2 : op.length ≤ 10) : Em5.Txt op := ⟨h1, by omega⟩
theorem i64_8 {n : Int} (h : -5 ≤ n ∧ n ≤ 5) : Em5.I64 n := by unfold Em5.I64; omega

/-- The world in which the nine stand. -/
def o8W (w : World) : World := ((((((w.alloc (.cells #[.string ⟨#[105, 110, 116]⟩, .int .i64 0, .slice none 0 0] 24)).alloc (.cells #[.string ⟨#[105, 110, 116]⟩, .int .i64 0, .slice none 0 0] 24)).alloc
  (.cells #[.string ⟨#[105, 110, 116]⟩, .int .i64 0, .slice none 0 0, .string ⟨#[105, 110, 116]⟩, .int .i64 0, .slice none 0 0, .string ⟨#[105, 110, 116]⟩, .int .i64 0, .slice none 0 0] 24)).alloc
  (.cells #[.string ⟨#[105, 110, 116]⟩, .int .i64 0, .slice none 0 0] 24)).alloc (.cells #[.string ⟨#[115, 101, 116]⟩, .int .i64 0, .slice none 0 0] 24)).alloc
  (.cells #[.string ⟨#[105, 110, 116]⟩, .int .i64 0, .slice none 0 0] 24)).alloc (.cells (flat3 (o8C w.heap.size)).toArray 24)
theorem o8_world (w : World) : Below w.heap.size w (o8W w) ∧ Tri (o8W w) w.heap.size (.string ⟨#[105, 110, 116]⟩) (.int .i64 0) (.slice none 0 0) ∧ IsTys (o8W w) (.slice (some ⟨w.heap.size + 6, 0, none⟩) 9 9) o8L := by
  obtain ⟨X0, h0⟩ : ∃ X, X = w.alloc (.cells #[.string ⟨#[105, 110, 116]⟩, .int .i64 0, .slice none 0 0] 24) := ⟨_, rfl⟩
  obtain ⟨Y1, h1⟩ : ∃ X, X = X0.alloc (.cells #[.string ⟨#[105, 110, 116]⟩, .int .i64 0, .slice none 0 0] 24) := ⟨_, rfl⟩
  obtain ⟨Y2, h2⟩ : ∃ X, X = Y1.alloc (.cells #[.string ⟨#[105, 110, 116]⟩, .int .i64 0, .slice none 0 0, .string ⟨#[105, 110, 116]⟩, .int .i64 0, .slice none 0 0, .string ⟨#[105, 110, 116]⟩, .int .i64 0, .slice none 0 0] 24) := ⟨_, rfl⟩
  obtain ⟨Y3, h3⟩ : ∃ X, X = Y2.alloc (.cells #[.string ⟨#[105, 110, 116]⟩, .int .i64 0, .slice none 0 0] 24) := ⟨_, rfl⟩
  obtain ⟨Y4, h4⟩ : ∃ X, X = Y3.alloc (.cells #[.string ⟨#[115, 101, 116]⟩, .int .i64 0, .slice none 0 0] 24) := ⟨_, rfl⟩
  obtain ⟨Y5, h5⟩ : ∃ X, X = Y4.alloc (.cells #[.string ⟨#[105, 110, 116]⟩, .int .i64 0, .slice none 0 0] 24) := ⟨_, rfl⟩
  obtain ⟨X, hX⟩ : ∃ X, X = Y5.alloc (.cells (flat3 (o8C w.heap.size)).toArray 24) := ⟨_, rfl⟩
  have e : o8W w = X := by rw [hX, h5, h4, h3, h2, h1, h0]; rfl
  rw [e]
  have z0 : X0.heap.size = w.heap.size + 1 := by rw [h0]; simp
  have z1 : Y1.heap.size = w.heap.size + 2 := by rw [h1]; simp; omega
  have z2 : Y2.heap.size = w.heap.size + 3 := by rw [h2]; simp; omega
  have z3 : Y3.heap.size = w.heap.size + 4 := by rw [h3]; simp; omega
  have z4 : Y4.heap.size = w.heap.size + 5 := by rw [h4]; simp; omega
  have z5 : Y5.heap.size = w.heap.size + 6 := by rw [h5]; simp; omega
  have b0 : Below w.heap.size w X0 := by rw [h0]; exact (Below.refl _ _).alloc (Nat.le_refl _) _
  have b1 : Below X0.heap.size X0 Y1 := by rw [h1]; exact (Below.refl _ _).alloc (Nat.le_refl _) _
  have b2 : Below Y1.heap.size Y1 Y2 := by rw [h2]; exact (Below.refl _ _).alloc (Nat.le_refl _) _
  have b3 : Below Y2.heap.size Y2 Y3 := by rw [h3]; exact (Below.refl _ _).alloc (Nat.le_refl _) _
  have b4 : Below Y3.heap.size Y3 Y4 := by rw [h4]; exact (Below.refl _ _).alloc (Nat.le_refl _) _
  have b5 : Below Y4.heap.size Y4 Y5 := by rw [h5]; exact (Below.refl _ _).alloc (Nat.le_refl _) _
  have b6 : Below Y5.heap.size Y5 X := by rw [hX]; exact (Below.refl _ _).alloc (Nat.le_refl _) _
  have n8 : ∀ W : World, IsTy W o8Int (.agg #[.string ⟨#[105, 110, 116]⟩, .int .i64 0, .slice none 0 0]) := fun W => leaf8 W tInt _ rfl 0 (txt8 (by decide) (by decide)) (i64_8 (by decide))
  have s1 : IsTys Y1 (.slice (some ⟨w.heap.size + 1, 0, none⟩) 1 1) [o8Int] := by rw [← z0, h1]; exact isTys_one (n8 _) _
  have s2 : IsTys Y2 (.slice (some ⟨w.heap.size + 2, 0, none⟩) 3 3) [o8Int, o8Int, o8Int] := by rw [← z1, h2]; exact isTys_three (n8 _) (n8 _) (n8 _) _
  have s3 : IsTys Y3 (.slice (some ⟨w.heap.size + 3, 0, none⟩) 1 1) [o8Int] := by rw [← z2, h3]; exact isTys_one (n8 _) _
  have s4 : IsTys Y4 (.slice (some ⟨w.heap.size + 4, 0, none⟩) 1 1) [.mk [115, 101, 116] 0 []] := by rw [← z3, h4]; exact isTys_one (leaf8 _ [115, 101, 116] _ rfl 0 (txt8 (by decide) (by decide)) (i64_8 (by decide))) _
  have s5 : IsTys Y5 (.slice (some ⟨w.heap.size + 5, 0, none⟩) 1 1) [o8Int] := by rw [← z4, h5]; exact isTys_one (n8 _) _
  have b15 : Below Y1.heap.size Y1 Y5 := (((b2.trans (b3.mono b2.size)).trans (b4.mono (b2.trans (b3.mono b2.size)).size))).trans (b5.mono ((b2.trans (b3.mono b2.size)).trans (b4.mono (b2.trans (b3.mono b2.size)).size)).size)
  have b25 : Below Y2.heap.size Y2 Y5 := (b3.trans (b4.mono b3.size)).trans (b5.mono (b3.trans (b4.mono b3.size)).size)
  have b35 : Below Y3.heap.size Y3 Y5 := b4.trans (b5.mono b4.size)
  have b05 : Below X0.heap.size X0 Y5 := b1.trans (b15.mono b1.size)
  have b0X : Below X0.heap.size X0 X := b05.trans (b6.mono b05.size)
  refine ⟨b0.trans (b0X.mono b0.size), ?_, ?_⟩
  · have t : Tri X0 w.heap.size (.string ⟨#[105, 110, 116]⟩) (.int .i64 0) (.slice none 0 0) := by rw [h0]; exact Tri.made _ _ _ _ _
    exact t.below b0X
  · rw [← z5, hX]
    refine isTys_alloc (l := o8L) (cs := o8C w.heap.size) rfl (fun j t c hj hc => ?_) (by decide) _
    have hl : j < 9 := (List.getElem?_eq_some_iff.1 hj).1
    match j, hl, hj, hc with
    | 0, _, hj, hc => cases hj; cases hc; exact leaf8 _ [] _ rfl 0 (txt8 (by decide) (by decide)) (i64_8 (by decide))
    | 1, _, hj, hc => cases hj; cases hc; exact leaf8 _ tList _ rfl 0 (txt8 (by decide) (by decide)) (i64_8 (by decide))
    | 2, _, hj, hc => cases hj; cases hc; exact leaf8 _ tInt _ rfl 1 (txt8 (by decide) (by decide)) (i64_8 (by decide))
    | 3, _, hj, hc => cases hj; cases hc; exact leaf8 _ tVar _ rfl (-1) (txt8 (by decide) (by decide)) (i64_8 (by decide))
    | 4, _, hj, hc => cases hj; cases hc; exact node8 (s1.below b15) tPair _ rfl 0 (txt8 (by decide) (by decide)) (i64_8 (by decide))
    | 5, _, hj, hc => cases hj; cases hc; exact node8 (s2.below b25) tFun _ rfl 0 (txt8 (by decide) (by decide)) (i64_8 (by decide))
    | 6, _, hj, hc => cases hj; cases hc; exact node8 (s3.below b35) tRef _ rfl 2 (txt8 (by decide) (by decide)) (i64_8 (by decide))
    | 7, _, hj, hc => cases hj; cases hc; exact node8 (s4.below b5) tList _ rfl 0 (txt8 (by decide) (by decide)) (i64_8 (by decide))
    | 8, _, hj, hc => cases hj; cases hc; exact node8 s5 tCell _ rfl 0 (txt8 (by decide) (by decide)) (i64_8 (by decide))

set_option maxRecDepth 100000 in
set_option maxHeartbeats 8000000 in
theorem walk_typOdd (w : World) (v : Value) (hv : ∃ n : Int, v = .int .i64 n ∧ (Lit.int .i64 n).wf = true) (hp : IsPow w) :
    Calls Tryd.prog 6 #[v] w fun e w' => e = .returned (.bool true) ∧ Below w.heap.size w w' := by
  obtain ⟨way, rfl, -⟩ := hv
  have HPA : Hid (∀ w', Below w.heap.size w w' → IsPow w') := fun w' h => hp.below h
  obtain ⟨X, hX⟩ : ∃ X, X = o8W w := ⟨_, rfl⟩
  obtain ⟨hb, ht, hs⟩ := o8_world w
  rw [← hX] at hb ht hs
  have HB : Hid (Below w.heap.size w X) := hb
  have HT : Hid (∀ w', Below X.heap.size X w' → Tri w' w.heap.size (.string ⟨#[105, 110, 116]⟩) (.int .i64 0) (.slice none 0 0)) := fun w' h => ht.below h
  have HL : Hid (∃ a cap, Value.slice (some ⟨w.heap.size + 6, 0, none⟩) 9 9 = .slice a o8L.length cap ∧ o8L.length ≤ cap ∧ cap ≤ 9223372036854775807 ∧ (0 < o8L.length → ∃ b off, a = some ⟨b, off, none⟩ ∧ b < X.heap.size ∧ TysAt X b off o8L)) := hs
  have HXE : Hid (o8W w = X) := hX.symm
  clear hX hb ht hs hp
  go_enter Tryd.func6, Tryd.ntmps6
  go_upto_region 3 with fail
  have hw8 := HXE.out
  unfold o8W o8C flat3 at hw8
  simp only [List.flatMap_cons, List.flatMap_nil, List.cons_append, List.nil_append, List.append_nil] at hw8
  rw [hw8]
  clear hw8 HXE
  by_cases h0 : way < 0
  · go_wp2_with fail
    go_ret
    exact ⟨rfl, HB.out⟩
  by_cases h9 : 9 ≤ way
  · go_wp2_with fail
    go_ret
    exact ⟨rfl, HB.out⟩
  obtain ⟨j, rfl⟩ := Int.eq_ofNat_of_zero_le (by omega : 0 ≤ way)
  have hj9 : j < 9 := by omega
  obtain ⟨t, hjt⟩ : ∃ t, o8L[j]? = some t := ⟨_, List.getElem?_eq_getElem hj9⟩
  have HNO : Hid (isTy t = false) := o8_no hjt
  have hat : TysAt X (w.heap.size + 6) 0 o8L := by
    obtain ⟨a, cap, e, -, -, h⟩ := HL.out
    obtain ⟨b, off, e2, -, h3⟩ := h (by decide)
    injection e with e3 e4 e5
    rw [e2] at e3
    injection e3 with e3
    injection e3 with e6 e7
    subst e6 e7
    exact h3
  obtain ⟨a', cap', m0, m1, m2, kn⟩ := ty_get hat hjt
  rw [Nat.zero_add] at m0 m1 m2
  have HKN : Hid (IsTy X t (.agg #[.string (Em.str t.op), .int .i64 t.n, .slice a' t.kids.length cap'])) := kn
  have hj0 : (0 : Int) ≤ (j : Int) := by omega
  have hj8 : (j : Int) < 9 := by omega
  clear hat hjt kn HL
  go_wp2_with fail
  refine (yIs_any t _ _ HKN.out).mono ?_
  rintro e x1 ⟨rfl, hb1⟩
  rw [HNO.out]
  clear m0 m1 m2
  obtain ⟨k0, k1, k2⟩ := HT.out _ hb1
  have d1 : IsTy x1 o8Int (.agg #[.string ⟨#[105, 110, 116]⟩, .int .i64 0, .slice none 0 0]) := leaf8 _ tInt _ rfl 0 (txt8 (by decide) (by decide)) (i64_8 (by decide))
  go_wp2_with fail
  refine (yIs_any o8Int _ _ d1).mono ?_
  rintro e x2 ⟨rfl, hb2⟩
  rw [o8_int]
  have b2 := hb1.trans (hb2.mono hb1.size)
  clear hb1 hb2 d1 k0 k1 k2
  go_wp2_with fail
  refine (rtVar_any 1099511627776 _).mono ?_
  rintro e x3 ⟨rfl, hb3⟩
  have b3 := b2.trans (hb3.mono b2.size)
  have d3 : IsTy x3 (.mk tVar 1099511627776 []) (.agg #[.string (Em.str tVar), .int .i64 1099511627776, .slice none 0 0]) := isTy_leaf x3 (txt8 (by decide) (by decide)) (by unfold Em5.I64; decide)
  clear b2 hb3
  go_wp2_with fail
  refine (yIs_any _ _ _ d3).mono ?_
  rintro e x4 ⟨rfl, hb4⟩
  rw [o8_var]
  have b4 := b3.trans (hb4.mono b3.size)
  have bw4 := HB.out.trans (b4.mono HB.out.size)
  clear b3 hb4 d3
  go_wp2_with fail
  refine (known8_any _ (HPA.out _ bw4)).mono ?_
  rintro e x5 ⟨rfl, hb5⟩
  have bw5 := bw4.trans (hb5.mono bw4.size)
  clear hb5 b4 bw4
  go_wp2_with fail
  go_ret
  exact ⟨rfl, bw5⟩

theorem typOdd_own : ownKnob Tryd.prog.godebug = none := by kernel_rfl
theorem typOdd_laidOut : laidOutB Tryd.prog = true := by kernel_rfl
theorem typOdd_met (os : Os) : laidMet Tryd.prog Rows.typOddRow.laid ((laidWorld os).forCall (fun _ _ => 0) ⟨#[], #[.int .i64 0], []⟩).memory :=
  laidMet_of_run' 8 (by kernel_rfl) (by kernel_rfl)
theorem typOdd_reads (os : Os) {H : Type} (enc : TypeId × Value → H) : ∃ places, DataW.whole enc Tryd.prog ((laidWorld os).forCall (fun _ _ => 0) ⟨#[], #[.int .i64 0], []⟩).memory Tryd.f6.params.toList Rows.typOddSpec.vars false (#[.int .i64 0] : Array Value).toList 8 = some ([.lit (.int .i64 0)], [], places) :=
  ⟨[], by kernel_rfl⟩
set_option maxRecDepth 100000 in
theorem typOdd_lifted (os : Os) (started : os.Started) (H : Type) (enc : TypeId × Value → H) (F : Stop.Interp) :
    ReturnsInHanded {} Tryd.checked os 6 .any ((OpenSpec.ofChange Rows.typOddSpec).preRow enc Tryd.prog Tryd.f6 Rows.typOddRow.domain false Rows.typOddRow.laid) (((OpenSpec.ofChange Rows.typOddSpec).at F).post enc Tryd.prog Tryd.f6 false true false false) := by
  obtain ⟨places, hx⟩ := typOdd_reads os enc
  refine returnsInHanded_of_row (C := Tryd.checked) (s := OpenSpec.ofChange Rows.typOddSpec) typOdd_own started (by kernel_rfl) Tryd.func6
    (witness_row_at (enc := enc) (C := Tryd.checked) false (laidWorld os) #[.int .i64 0] rfl (by kernel_rfl) (by kernel_rfl) (by kernel_rfl)
      (OpenSpec.preRow_of_cond 8 hx (by kernel_rfl) (fun k hk => by cases hk) (by kernel_rfl) (typOdd_met os))) ?_
  intro W base args ds gs before hval0 hW _ _ hsz0 hL _ _
  have hfact := laid_of_row hL
  have hval : ∀ (j : Nat) t v, Tryd.f6.params[j]? = some t → args[j]? = some v → Value.okWide Tryd.prog W .any base t v := hval0
  have hW' := hW
  obtain ⟨p, q, hA0, hV, rfl, hfz, hnd⟩ := hW
  have hA : DataW.TrodAll enc Tryd.prog W 0 (fun _ => true) true Tryd.f6.params.toList args.toList ds p := hA0
  have hsz : (DataW.weightsEach Tryd.prog (Tryd.f6.params.toList ++ Rows.typOddSpec.plain.varTypes Tryd.prog) (ds ++ gs)).all (· ≤ reachBytes) = true := hsz0
  rw [Tryd.params6] at hA hval hsz
  obtain ⟨v0, vs0, d0, ds0, p0, q0, hargs, rfl, rfl, h0, r0⟩ := trodAll_cons hA
  obtain ⟨rfl, rfl, rfl⟩ := trodAll_nil r0
  obtain rfl : args = #[v0] := by cases args; simp_all
  obtain ⟨rfl, rfl⟩ := trodVars_none hV
  have lt0 : ∀ x ∈ p0, x.block < W.heap.size := by obtain ⟨m, hm⟩ := h0; exact DataW.trod_lt m _ _ _ hm
  have o0 := Em.open_int Tryd.underlying3 (hval 0 3 v0 rfl rfl) h0
  clear hA0 hval0 hsz0 hsz
  refine (walk_typOdd W v0 o0 hfact).mono fun e W' ⟨he, bel⟩ => ?_
  subst he
  exact ⟨_, rfl, _, _, _, [], _, [], hW', trodAll_mk1 (shut_bool Tryd.underlying4 _), (trodAll_cons_mk (Below.trod typOdd_laidOut (by kernel_rfl) (of_decide_eq_true (by kernel_rfl)) h0 bel lt0) trodAll_mk0), rfl, bel.frame _, fun h => by cases h⟩
theorem typOdd_said : Rows.TypOddSaid :=
  OpenClaim.holds_of_cond 6 Tryd.f6 rfl rfl rfl rfl rfl rfl rfl ⟨rfl, rfl, rfl, rfl, rfl⟩ rfl rfl rfl rfl rfl (by kernel_rfl) Tryd.func6 (by kernel_rfl)
    (of_decide_eq_true (by kernel_rfl)) (by unfold Func.isWrapper; first | (rw [if_pos (by decide +kernel)]; kernel_rfl) | (rw [if_neg (by decide +kernel)]; exact ⟨rfl, rfl⟩))
    (fun os started H enc _ F => by rw [OpenClaim.pre_eq_preRow]; exact typOdd_lifted os started H enc F)
theorem typOdd_plain (f : FuncId) (fn : Func) (hf : Tryd.pinned.checked.prog.funcNamed "emissary/emissarylaw8.TypOdd" = some f) (hfn : Tryd.pinned.checked.prog.funcs[f]? = some fn) :
    false = Tryd.pinned.checked.prog.looks [] ∧ ∀ (j : Nat) t, fn.params[j]? = some t → Tryd.pinned.checked.prog.wantsStandIn t = false := by
  obtain rfl : f = 6 := Option.some.inj ((show Tryd.prog.funcNamed "emissary/emissarylaw8.TypOdd" = some 6 by kernel_rfl).symm.trans hf) |>.symm
  obtain rfl : fn = Tryd.f6 := (Option.some.inj (Tryd.func6.symm.trans hfn)).symm
  refine ⟨by kernel_rfl, fun j t ht => ?_⟩
  rw [Tryd.params6] at ht
  have hm : t ∈ ([3] : List Nat) := by simpa using Array.mem_of_getElem? ht
  have hall : (([3] : List Nat).all fun u => !Tryd.prog.wantsStandIn u) = true := by kernel_rfl
  exact (show Tryd.prog.wantsStandIn t = false by simpa using List.all_eq_true.1 hall t hm)
theorem typOdd_holds : Rows.TypOddCardSaid :=
  Claim7.holds_tied_plain_at .later [] _ _ _ _ typOdd_said (fun _ h => by cases h) (by kernel_rfl) (fun _ h => by cases h) typOdd_row_tie rfl ⟨rfl, rfl⟩ (by kernel_rfl) rfl typOdd_plain (by kernel_rfl)
#print axioms typOdd_holds
end Go.Proofs.YtcpimmapdhmoiaaDoor

/- The program's own terms (package unify) in memory; what its methods end and isVar answer. -/
import Derived.Test.YtadhjnbhcenocaaProg
import Derived.Test.YtadhjnbhcenocaaMath9i
import Derived.Test.YtadhjnbhcenocaaTyOwn
import Derived.Test.YtadhjnbhcenocaaMath5
import Derived.WalkKit
import Derived.WalkSpells
import Derived.WalkLawsBesides
import Derived.Deep.RegionHeld
namespace Go.Proofs.Ytadhjnbhcenocaa
open Go.RowKit Go.Em8 Go.Em9
set_option linter.unusedSimpArgs false
set_option linter.unusedVariables false

/-- A pointer to a whole block, or none. -/
def ptrV : Option Nat → Value
  | none => .pointer none
  | some b => .pointer (some ⟨b, 0, none⟩)
/-- The cells of a term. -/
def tmC (op : List Int) (n : Int) (ka : Option Addr) (kl kc : Nat) (is : Option Nat) (sz cm sn : Int) : Array Value := #[.string (Em.str op), .int .i64 n, .slice ka kl kc, ptrV is, .int .i64 sz, .int .i64 cm, .int .i64 sn]
/-- In the world w a row of pointers to whole blocks lies at the slice; K holds of the block that it lies in. -/
def IsPtrs (w : World) (K : Nat → Prop) (ka : Option Addr) (kc : Nat) (ks : List Nat) : Prop :=
  ks.length ≤ kc ∧ kc ≤ 9223372036854775807 ∧ (0 < ks.length → ∃ kb, ka = some ⟨kb, 0, none⟩ ∧ kb < w.heap.size ∧ K kb ∧ ∀ j k, ks[j]? = some k → w.cell? ⟨kb, j, none⟩ = some (.pointer (some ⟨k, 0, none⟩)))
/-- In the world w the block b is a term. -/
def TmAt (w : World) (K : Nat → Prop) (b : Nat) (op : List Int) (n : Int) (ks : List Nat) (is : Option Nat) (cm sn : Int) : Prop :=
  ∃ ka kc sz, w.heap[b]? = some (.cells (tmC op n ka ks.length kc is sz cm sn) 66 (0, 0)) ∧ IsPtrs w K ka kc ks ∧ Em5.Txt op ∧ Em5.I64 n
def upd {α : Type} (f : Nat → α) (x : Nat) (v : α) : Nat → α := fun b => if b = x then v else f b
theorem upd_same {α : Type} (f : Nat → α) (x : Nat) (v : α) : upd f x v x = v := if_pos rfl
theorem upd_else {α : Type} (f : Nat → α) {x b : Nat} (v : α) (h : b ≠ x) : upd f x v b = f b := if_neg h
/-- The terms F in the world w: where each leads, when it came, when it was seen. -/
def Tms (w : World) (K : Nat → Prop) (F : Fo) (is : Nat → Option Nat) (cm sn : Nat → Int) : Prop := ∀ b ∈ F.L, ¬ K b ∧ TmAt w K b (F.ty b).op (F.ty b).n (F.ks b) (is b) (cm b) (sn b)

theorem heap_lt9 {w : World} {k : Nat} {o : Obj} (h : w.heap[k]? = some o) : k < w.heap.size := (Array.getElem?_eq_some_iff.1 h).1
theorem IsPtrs.keep {w w' : World} {K K' : Nat → Prop} {ka : Option Addr} {kc : Nat} {ks : List Nat} (h : IsPtrs w K ka kc ks) (hs : w.heap.size ≤ w'.heap.size) (hb : ∀ b, K b → b < w.heap.size → w'.heap[b]? = w.heap[b]? ∧ K' b) : IsPtrs w' K' ka kc ks := by
  obtain ⟨h1, h2, h3⟩ := h
  refine ⟨h1, h2, fun hp => ?_⟩
  obtain ⟨kb, e, hl, hk, hc⟩ := h3 hp
  obtain ⟨g1, g2⟩ := hb kb hk hl
  exact ⟨kb, e, by omega, g2, fun j k hj => by rw [World.cell?_of_block (w := w) (a := ⟨kb, j, none⟩) g1]; exact hc j k hj⟩
theorem TmAt.keep {w w' : World} {K K' : Nat → Prop} {b : Nat} {op : List Int} {n : Int} {ks : List Nat} {is : Option Nat} {cm sn : Int} (h : TmAt w K b op n ks is cm sn) (hs : w.heap.size ≤ w'.heap.size) (h0 : w'.heap[b]? = w.heap[b]?) (hb : ∀ k, K k → k < w.heap.size → w'.heap[k]? = w.heap[k]? ∧ K' k) : TmAt w' K' b op n ks is cm sn := by
  obtain ⟨ka, kc, sz, h1, h2, h3⟩ := h
  exact ⟨ka, kc, sz, by rw [h0]; exact h1, h2.keep hs hb, h3⟩
theorem TmAt.lt {w : World} {K : Nat → Prop} {b : Nat} {op : List Int} {n : Int} {ks : List Nat} {is : Option Nat} {cm sn : Int} (h : TmAt w K b op n ks is cm sn) : b < w.heap.size := by
  obtain ⟨ka, kc, sz, h1, -⟩ := h
  exact heap_lt9 h1
/-- What stands in its cells. -/
theorem TmAt.cells {w : World} {K : Nat → Prop} {b : Nat} {op : List Int} {n : Int} {ks : List Nat} {is : Option Nat} {cm sn : Int} (h : TmAt w K b op n ks is cm sn) :
    ∃ ka kc sz, w.cell? ⟨b, 0, none⟩ = some (.string (Em.str op)) ∧ w.cell? ⟨b, 1, none⟩ = some (.int .i64 n) ∧ w.cell? ⟨b, 2, none⟩ = some (.slice ka ks.length kc) ∧ w.cell? ⟨b, 3, none⟩ = some (ptrV is) ∧ w.cell? ⟨b, 4, none⟩ = some (.int .i64 sz) ∧ w.cell? ⟨b, 5, none⟩ = some (.int .i64 cm) ∧ w.cell? ⟨b, 6, none⟩ = some (.int .i64 sn) ∧ (∀ o, w.frozen? ⟨b, o, none⟩ = false) ∧ IsPtrs w K ka kc ks := by
  obtain ⟨ka, kc, sz, h1, h2, -⟩ := h
  refine ⟨ka, kc, sz, ?_, ?_, ?_, ?_, ?_, ?_, ?_, fun o => by simp [World.frozen?, h1], h2⟩ <;> simp [World.cell?, h1, tmC]
theorem heap_set9 {w : World} {b : Nat} {C : Array Value} {ty : TypeId} (o : Nat) (v : Value) (h : w.heap[b]? = some (.cells C ty (0, 0))) : (w.setCell ⟨b, o, none⟩ v).heap[b]? = some (.cells (C.setIfInBounds o v) ty (0, 0)) := by
  have := heap_lt9 h
  simp only [World.setCell, Array.getElem?_modify, if_true, h]
  simp
theorem isPtrs_set {w : World} {K : Nat → Prop} {ka : Option Addr} {kc : Nat} {ks : List Nat} {b : Nat} (h : IsPtrs w K ka kc ks) (hb : ¬ K b) (o : Nat) (v : Value) : IsPtrs (w.setCell ⟨b, o, none⟩ v) K ka kc ks :=
  h.keep (by simp) fun k hk _ => ⟨Below.heap_setCell _ _ _ _ (by simp; rintro rfl; exact hb hk), hk⟩
theorem TmAt.setIs {w : World} {K : Nat → Prop} {b : Nat} {op : List Int} {n : Int} {ks : List Nat} {is : Option Nat} {cm sn : Int} (h : TmAt w K b op n ks is cm sn) (hb : ¬ K b) (v : Option Nat) : TmAt (w.setCell ⟨b, 3, none⟩ (ptrV v)) K b op n ks v cm sn := by
  obtain ⟨ka, kc, sz, h1, h2, h3⟩ := h
  exact ⟨ka, kc, sz, heap_set9 3 _ h1, isPtrs_set h2 hb _ _, h3⟩
theorem TmAt.setSz {w : World} {K : Nat → Prop} {b : Nat} {op : List Int} {n : Int} {ks : List Nat} {is : Option Nat} {cm sn : Int} (h : TmAt w K b op n ks is cm sn) (hb : ¬ K b) (v : Int) : TmAt (w.setCell ⟨b, 4, none⟩ (.int .i64 v)) K b op n ks is cm sn := by
  obtain ⟨ka, kc, sz, h1, h2, h3⟩ := h
  exact ⟨ka, kc, v, heap_set9 4 _ h1, isPtrs_set h2 hb _ _, h3⟩
theorem TmAt.setSn {w : World} {K : Nat → Prop} {b : Nat} {op : List Int} {n : Int} {ks : List Nat} {is : Option Nat} {cm sn : Int} (h : TmAt w K b op n ks is cm sn) (hb : ¬ K b) (v : Int) : TmAt (w.setCell ⟨b, 6, none⟩ (.int .i64 v)) K b op n ks is cm v := by
  obtain ⟨ka, kc, sz, h1, h2, h3⟩ := h
  exact ⟨ka, kc, sz, heap_set9 6 _ h1, isPtrs_set h2 hb _ _, h3⟩
section
variable {w w' : World} {K K' : Nat → Prop} {F : Fo} {is : Nat → Option Nat} {cm sn : Nat → Int}
theorem Tms.keep (h : Tms w K F is cm sn) (hs : w.heap.size ≤ w'.heap.size) (h0 : ∀ b ∈ F.L, w'.heap[b]? = w.heap[b]? ∧ ¬ K' b) (hb : ∀ k, K k → k < w.heap.size → w'.heap[k]? = w.heap[k]? ∧ K' k) : Tms w' K' F is cm sn := fun b hm =>
  ⟨(h0 b hm).2, (h b hm).2.keep hs (h0 b hm).1 hb⟩
theorem Tms.lt (h : Tms w K F is cm sn) {b : Nat} (hb : b ∈ F.L) : b < w.heap.size := (h b hb).2.lt
theorem Tms.below (h : Tms w K F is cm sn) (hb : Below w.heap.size w w') : Tms w' K F is cm sn :=
  h.keep hb.size (fun b hm => ⟨hb.block b (h.lt hm), (h b hm).1⟩) (fun k hk hl => ⟨hb.block k hl, hk⟩)
theorem Tms.other (h : Tms w K F is cm sn) {b x : Nat} (hb : b ∈ F.L) (hx : x ∈ F.L) (hn : b ≠ x) (o : Nat) (v : Value) : TmAt (w.setCell ⟨x, o, none⟩ v) K b (F.ty b).op (F.ty b).n (F.ks b) (is b) (cm b) (sn b) :=
  (h b hb).2.keep (by simp) (Below.heap_setCell _ _ _ _ (by simpa using hn)) fun k hk _ => ⟨Below.heap_setCell _ _ _ _ (by simp; rintro rfl; exact (h k hx).1 hk), hk⟩
theorem Tms.setIs (h : Tms w K F is cm sn) {x : Nat} (hx : x ∈ F.L) (v : Option Nat) : Tms (w.setCell ⟨x, 3, none⟩ (ptrV v)) K F (upd is x v) cm sn := fun b hb => by
  refine ⟨(h b hb).1, ?_⟩
  by_cases e : b = x
  · subst e; rw [upd_same]; exact (h b hb).2.setIs (h b hb).1 v
  · rw [upd_else _ _ e]; exact h.other hb hx e _ _
theorem Tms.setSz (h : Tms w K F is cm sn) {x : Nat} (hx : x ∈ F.L) (v : Int) : Tms (w.setCell ⟨x, 4, none⟩ (.int .i64 v)) K F is cm sn := fun b hb => by
  refine ⟨(h b hb).1, ?_⟩
  by_cases e : b = x
  · subst e; exact (h b hb).2.setSz (h b hb).1 v
  · exact h.other hb hx e _ _
theorem Tms.setSn (h : Tms w K F is cm sn) {x : Nat} (hx : x ∈ F.L) (v : Int) : Tms (w.setCell ⟨x, 6, none⟩ (.int .i64 v)) K F is cm (upd sn x v) := fun b hb => by
  refine ⟨(h b hb).1, ?_⟩
  by_cases e : b = x
  · subst e; rw [upd_same]; exact (h b hb).2.setSn (h b hb).1 v
  · rw [upd_else _ _ e]; exact h.other hb hx e _ _
end
/-- Where terms lead is to their ends. -/
structure Leads (L : List Nat) (is : Nat → Option Nat) (E D : Nat → Nat) : Prop where
  none : ∀ b ∈ L, is b = none → E b = b
  some : ∀ b ∈ L, ∀ c, is b = some c → c ∈ L ∧ E b = E c ∧ D c < D b ∧ E b ≠ b
theorem Leads.end_ {L : List Nat} {is : Nat → Option Nat} {E D : Nat → Nat} (h : Leads L is E D) {b : Nat} (hb : b ∈ L) (he : E b = b) : is b = .none := by
  cases hi : is b with
  | none => rfl
  | some c => exact absurd he (h.some b hb c hi).2.2.2
theorem Leads.join {F : Fo} {is : Nat → Option Nat} {E D : Nat → Nat} (h : Leads F.L is E D) {x y : Nat} (hx : E x = x) (hy : E y = y) (hn : x ≠ y) (hyL : y ∈ F.L) (hi : ∀ b, E (E b) = E b) : Leads F.L (upd is x (.some y)) (joinE E x y) (fun b => if E b = x then D b + D y + 1 else D b) := by
  have hyx : E y ≠ x := by rw [hy]; exact fun e => hn e.symm
  refine ⟨fun b hb hb0 => ?_, fun b hb c hc => ?_⟩
  · by_cases e : b = x
    · subst e; rw [upd_same] at hb0; cases hb0
    · rw [upd_else _ _ e] at hb0
      have := h.none b hb hb0
      rw [joinE_neg (by rw [this]; exact e), this]
  · by_cases e : b = x
    · subst e
      rw [upd_same] at hc
      cases hc
      refine ⟨hyL, ?_, ?_, ?_⟩
      · rw [joinE_pos hx, joinE_neg hyx, hy]
      · rw [if_neg hyx, if_pos hx]; omega
      · rw [joinE_pos hx]; exact fun e => hn e.symm
    · rw [upd_else _ _ e] at hc
      obtain ⟨h1, h2, h3, h4⟩ := h.some b hb c hc
      refine ⟨h1, ?_, ?_, ?_⟩
      · unfold joinE; rw [h2]
      · by_cases hb2 : E b = x
        · rw [if_pos hb2, if_pos (by rw [← h2]; exact hb2)]; omega
        · rw [if_neg hb2, if_neg (by rw [← h2]; exact hb2)]; exact h3
      · by_cases hb2 : E b = x
        · rw [joinE_pos hb2]
          rintro rfl
          exact hn (hb2.symm.trans hy)
        · rw [joinE_neg hb2]; exact h4

/-- The block that a pointer points to. -/
def blkOf : Value → Nat
  | .pointer (some a) => a.block
  | _ => 0
theorem ptr_none : ptrV none = .pointer none := rfl
theorem ptr_some (b : Nat) : ptrV (some b) = .pointer (some ⟨b, 0, none⟩) := rfl
set_option maxRecDepth 100000 in
set_option maxHeartbeats 2000000 in
/-- 'x.end()'. -/
theorem uend_any {w : World} {K : Nat → Prop} {F : Fo} {is : Nat → Option Nat} {cm sn : Nat → Int} {E D : Nat → Nat} (hT : Tms w K F is cm sn) (hL : Leads F.L is E D) {b : Nat} (hb : b ∈ F.L) :
    Calls Try.prog 37 #[.pointer (some ⟨b, 0, none⟩)] w fun e w' => e = .returned (.pointer (some ⟨E b, 0, none⟩)) ∧ w' = w := by
  have HT : Hid (Tms w K F is cm sn ∧ Leads F.L is E D) := ⟨hT, hL⟩
  have HB : Hid (b ∈ F.L) := hb
  clear hT hL hb
  go_enter Try.func37, Try.ntmps37
  go_wp2
  go_loopw [0] (fun x wr => ∃ c, x = .pointer (some ⟨c, 0, none⟩) ∧ Hid (c ∈ F.L ∧ E c = E b) ∧ wr = w) (fun x _ => D (blkOf x))
  case atStart => exact ⟨b, rfl, ⟨HB.out, rfl⟩, rfl⟩
  case round =>
    obtain ⟨c, rfl, HC, rfl⟩ := hrel
    obtain ⟨ka, kc, sz, -, -, -, k3, -⟩ := (HT.out.1 c HC.out.1).2.cells
    cases hi : is c with
    | none =>
      have HE : Hid (E b = c) := by rw [Hid, ← HC.out.2]; exact HT.out.2.none c HC.out.1 hi
      rw [hi, ptr_none] at k3
      clear hi
      go_wp2
      go_ret
      rw [HE.out]; exact ⟨rfl, rfl⟩
    | some d =>
      obtain ⟨d1, d2, d3, -⟩ := HT.out.2.some c HC.out.1 d hi
      have HD : Hid (d ∈ F.L ∧ E d = E b ∧ D d < D c) := ⟨d1, by rw [← d2]; exact HC.out.2, d3⟩
      rw [hi, ptr_some] at k3
      clear hi d1 d2 d3
      go_wp2
      go_roundw
      case rel => exact ⟨d, rfl, ⟨HD.out.1, HD.out.2.1⟩, trivial⟩
      case measure => exact HD.out.2.2
set_option maxRecDepth 100000 in
set_option maxHeartbeats 2000000 in
/-- 'x.isVar()'. -/
theorem uvar_any {w : World} {K : Nat → Prop} {F : Fo} {is : Nat → Option Nat} {cm sn : Nat → Int} (hF : FoOk F) (hT : Tms w K F is cm sn) {b : Nat} (hb : b ∈ F.L) :
    Calls Try.prog 38 #[.pointer (some ⟨b, 0, none⟩)] w fun e w' => e = .returned (.bool (decide (F.var b))) ∧ w' = w := by
  obtain ⟨ka, kc, sz, k0, -, k2, -⟩ := (hT b hb).2.cells
  obtain ⟨-, -, -, -, -, htx, -⟩ := (hT b hb).2
  have hq := Em5.str_eq htx.1 [118, 97, 114]
  by_cases hv : F.var b
  · have hk := (hF.varKids hb hv).1
    rw [hk] at k2
    rw [decide_eq_true hv]
    rw [decide_eq_true (show (F.ty b).op = List.map (fun c : UInt8 => (c.toNat : Int)) [118, 97, 114] from hv)] at hq
    simp only [List.length_nil] at k2
    clear hT hF hk hv
    go_enter Try.func38, Try.ntmps38
    go_wp2
    go_ret
    exact ⟨rfl, rfl⟩
  · rw [decide_eq_false hv]
    rw [decide_eq_false (show (F.ty b).op ≠ List.map (fun c : UInt8 => (c.toNat : Int)) [118, 97, 114] from hv)] at hq
    clear hT hF hv
    go_enter Try.func38, Try.ntmps38
    go_wp2
    go_ret
    exact ⟨rfl, rfl⟩
end Go.Proofs.Ytadhjnbhcenocaa

/- Several texts in one: Bytes, Str, StrA, Nd, NdV, Math4, Math4b, Math5, Math5b, Math5c, Math5d. -/
import Derived.WalkKit
import Derived.WalkSpells
import Derived.WalkLawsBesides
import Derived.Laws.Strings2
import Derived.Deep.Draws
namespace Go.Em
open Go.RowKit

/-- In the world w the value u is a slice that holds the bytes L. -/
def IsBytes (w : World) (u : Value) (L : List Int) : Prop :=
  ∃ a cap, u = .slice a L.length cap ∧ L.length ≤ cap ∧ cap ≤ maxLen ∧ (a = none → cap = 0) ∧ (∀ x ∈ L, 0 ≤ x ∧ x ≤ 255) ∧
    ∀ j, j < L.length → ∃ ad, a = some ad ∧ w.cell? (ad.add j) = some (.int .u8 (L.getD j 0))

theorem IsBytes.nil (w : World) : IsBytes w (.slice none 0 0) [] :=
  ⟨none, 0, rfl, by simp, by simp [maxLen], fun _ => rfl, by simp, by simp⟩

theorem IsBytes.len {w : World} {u : Value} {L : List Int} (h : IsBytes w u L) : L.length ≤ 9223372036854775807 := by
  obtain ⟨a, cap, -, h1, h2, -⟩ := h; unfold maxLen at h2; omega

theorem IsBytes.bd {w : World} {u : Value} {L : List Int} (h : IsBytes w u L) : ∀ x ∈ L, 0 ≤ x ∧ x ≤ 255 := by
  obtain ⟨a, cap, -, -, -, -, h, -⟩ := h; exact h

theorem getD_bd {L : List Int} (h : ∀ x ∈ L, 0 ≤ x ∧ x ≤ 255) (j : Nat) : 0 ≤ L[j]?.getD 0 ∧ L[j]?.getD 0 ≤ 255 := by
  cases hj : L[j]? with
  | none => simp
  | some x => exact h x (List.mem_of_getElem? hj)

/-- Where there is a byte the slice's address is plain. -/
theorem IsBytes.plain {w : World} {u : Value} {L : List Int} (h : IsBytes w u L) (hp : 0 < L.length) :
    ∃ b off cap, u = .slice (some ⟨b, off, none⟩) L.length cap ∧ L.length ≤ cap ∧ cap ≤ maxLen ∧ ∀ j, j < L.length → w.cell? ⟨b, off + j, none⟩ = some (.int .u8 (L.getD j 0)) := by
  obtain ⟨a, cap, rfl, h1, h2, -, -, hc⟩ := h
  obtain ⟨ad, rfl, hc0⟩ := hc 0 hp
  obtain ⟨b, off, spot⟩ := ad
  have hspot : spot = none := by simpa [Addr.add] using World.cell?_spot hc0
  subst hspot
  refine ⟨b, off, cap, rfl, h1, h2, fun j hj => ?_⟩
  obtain ⟨ad, had, hcj⟩ := hc j hj
  cases had
  rw [← hcj]
  unfold Addr.add
  split
  · rename_i h0; subst h0; rfl
  · rfl

/-- No byte. -/
theorem IsBytes.empty {w : World} {u : Value} {L : List Int} (h : IsBytes w u L) (hp : L.length = 0) :
    ∃ a cap, u = .slice a 0 cap ∧ cap ≤ maxLen ∧ (a = none → cap = 0) := by
  obtain ⟨a, cap, rfl, h1, h2, h3, -⟩ := h
  exact ⟨a, cap, by rw [hp], h2, h3⟩

/-- What an 'ownsRow' of bytes is. -/
theorem IsBytes.own {w : World} {base : Nat} {e : TypeId} {u : Value} {L : List Int} (hb : ∀ x ∈ L, 0 ≤ x ∧ x ≤ 255)
    (h : w.ownsRow base e 1 u L.length (L.map (Value.int .u8))) : IsBytes w u L := by
  have h' := h
  obtain ⟨_, h2⟩ := h
  rcases h2 with ⟨rfl, h2⟩ | ⟨g, cap, cur, rfl, hg, hh, h3, h4, h5, h6⟩
  · have : L = [] := List.length_eq_zero_iff.1 h2
    subst this
    exact IsBytes.nil w
  · refine ⟨some ⟨g, 0, none⟩, cap, rfl, h3, h4, (fun h => by cases h), hb, fun j hj => ⟨_, rfl, ?_⟩⟩
    have := h'.cells (g := g) rfl j (.int .u8 (L.getD j 0)) (by simp [hj])
    exact this

/-- A slice that reads lies in blocks that are there. -/
theorem cell_lt {w : World} {p : Addr} {v : Value} (h : w.cell? p = some v) : p.block < w.heap.size := by
  unfold World.cell? at h
  by_cases hlt : p.block < w.heap.size
  · exact hlt
  · have : w.heap[p.block]? = none := Array.getElem?_eq_none (by omega)
    simp [this] at h

/-- Old bytes are as they were behind a call that only makes memory. -/
theorem IsBytes.below {w w' : World} {u : Value} {L : List Int} (h : IsBytes w u L) (hb : Below w.heap.size w w') : IsBytes w' u L := by
  obtain ⟨a, cap, rfl, h1, h2, h3, h4, hc⟩ := h
  refine ⟨a, cap, rfl, h1, h2, h3, h4, fun j hj => ?_⟩
  obtain ⟨ad, rfl, hcj⟩ := hc j hj
  exact ⟨ad, rfl, by rw [hb.cell (cell_lt hcj)]; exact hcj⟩

/-- The cells, as a law on append asks for them. -/
theorem IsBytes.news {w : World} {ad : Addr} {n c : Nat} {L : List Int} (h : IsBytes w (.slice (some ad) n c) L) :
    ∀ j u, (L.map (Value.int .u8))[j]? = some u → w.cell? (ad.add j) = some u := by
  obtain ⟨a, cap, e, -, -, -, -, hc⟩ := h
  injection e with e1 e2 e3
  subst e1
  intro j u hj
  have hj' : j < L.length := by
    have := (List.getElem?_eq_some_iff.1 hj).1
    simpa using this
  obtain ⟨ad', had, hcj⟩ := hc j hj'
  cases had
  rw [hcj]
  simp [List.getElem?_eq_getElem hj'] at hj
  simp [hj', hj]
theorem oneCells (L : List Int) : ∀ u ∈ L.map (Value.int .u8), u.oneCell' = true := by
  intro u hu
  simp only [List.mem_map] at hu
  obtain ⟨x, -, rfl⟩ := hu
  rfl
/-- Bytes that a call owns, where there are any: their slice. -/
theorem own_shape {w : World} {B : Nat} {e : TypeId} {u : Value} {L : List Int} (h : w.ownsRow B e 1 u L.length (L.map (Value.int .u8))) (hL : 1 ≤ L.length) :
    ∃ g c, u = .slice (some ⟨g, 0, none⟩) L.length c ∧ B ≤ g ∧ g < w.heap.size := by
  have h' := h
  obtain ⟨_, h2⟩ := h
  rcases h2 with ⟨-, h2⟩ | ⟨g, cap, cur, rfl, hg, -⟩
  · omega
  · exact ⟨g, cap, rfl, hg, (h'.lt g rfl).2⟩

/-- The first m bytes. -/
theorem IsBytes.take {w : World} {a : Option Addr} {n c : Nat} {L : List Int} (h : IsBytes w (.slice a n c) L) (m : Nat) (hm : m ≤ n) : IsBytes w (.slice a m c) (L.take m) := by
  obtain ⟨a', cap, e, h1, h2, h3, h4, hc⟩ := h
  injection e with e1 e2 e3
  subst e1; subst e3
  have el : (L.take m).length = m := by simp; omega
  refine ⟨a, c, by rw [el], by rw [el]; omega, h2, h3, fun x hx => h4 x (List.mem_of_mem_take hx), fun j hj => ?_⟩
  rw [el] at hj
  obtain ⟨ad, had, hcj⟩ := hc j (by omega)
  exact ⟨ad, had, by rw [hcj]; simp [hj]⟩

/-- A part of the bytes: 's[l:h]'. -/
theorem IsBytes.sliced {w : World} {a : Option Addr} {n c : Nat} {L : List Int} (h : IsBytes w (.slice a n c) L) (l m : Nat) (h1 : l ≤ m) (h2 : m ≤ n) : IsBytes w (sliced a l m c 1) ((L.drop l).take (m - l)) := by
  obtain ⟨a', cap, e, k1, k2, k3, k4, hc⟩ := h
  injection e with e1 e2 e3
  subst e1; subst e3
  have el : ((L.drop l).take (m - l)).length = m - l := by simp; omega
  refine ⟨if c = l then a else a.map (·.add (l * 1)), c - l, by rw [el]; rfl, by rw [el]; omega, by omega, ?_, fun x hx => k4 x (List.mem_of_mem_drop (List.mem_of_mem_take hx)), fun j hj => ?_⟩
  · intro hn
    split at hn
    · omega
    · cases a with
      | none => have := k3 rfl; omega
      | some ad => simp at hn
  · rw [el] at hj
    obtain ⟨ad, rfl, hcj⟩ := hc (l + j) (by omega)
    rw [if_neg (by omega)]
    refine ⟨ad.add (l * 1), rfl, ?_⟩
    have e2 : (ad.add (l * 1)).add j = ad.add (l + j) := by
      unfold Addr.add
      by_cases hl : l = 0
      · subst hl; simp
      · by_cases hj0 : j = 0
        · subst hj0; simp [hl]
        · simp [hl, hj0]; omega
    rw [e2, hcj]
    simp [hj, List.getElem?_drop]
/-! ### Bytes as a string -/
def str (L : List Int) : ByteArray := ⟨(L.map fun n => UInt8.ofNat n.toNat).toArray⟩

theorem foldl_push : ∀ (L : List Int) (r : ByteArray), L.foldl (fun r n => r.push (UInt8.ofNat n.toNat)) r = ⟨r.data ++ (L.map fun n => UInt8.ofNat n.toNat).toArray⟩
  | [], r => by simp
  | b :: l, r => by
    simp only [List.foldl_cons]
    rw [foldl_push l]
    simp [ByteArray.push]

/-- 'string(b)'. -/
theorem run_str {P : Program} (src dst e : TypeId) (hs : P.underlying src = some (.slice e)) (he : P.underlying e = some (.int .u8)) (hd : P.underlying dst = some .string)
    {w : World} {u : Value} {L : List Int} (h : IsBytes w u L) : (convert src dst u).run P w = .ok (.string (str L)) w := by
  obtain ⟨a, cap, rfl, -, -, h3, -, hc⟩ := h
  rw [run_convert_bytes_string w src dst e a L.length cap hs he hd]
  cases a with
  | none =>
    have : L = [] := by
      cases L with
      | nil => rfl
      | cons c r => obtain ⟨ad, had, -⟩ := hc 0 (by simp); cases had
    subst this
    have := h3 rfl
    subst this
    rfl
  | some a =>
    have hl := run_loadCells_list (P := P) w a (L.map (Value.int .u8)) (fun j v hj => by
      have hj' : j < L.length := by
        have := (List.getElem?_eq_some_iff.1 hj).1
        simpa using this
      obtain ⟨ad, had, hcj⟩ := hc j hj'
      cases had
      rw [hcj]
      simp [List.getElem?_eq_getElem hj'] at hj
      simp [hj', hj])
    simp only [List.length_map] at hl
    rw [run_bytesToString w a L.length cap L hl, foldl_push]
    have he0 : ByteArray.empty.data = #[] := rfl
    rw [he0]
    simp [str]

theorem toList_inj {a b : ByteArray} (h : a.toList = b.toList) : a = b := by
  rw [ByteArray.toList_eq, ByteArray.toList_eq] at h
  cases a; cases b
  simp at h
  simp [h]

theorem str_inj {L M : List Int} (hL : ∀ x ∈ L, 0 ≤ x ∧ x ≤ 255) (hM : ∀ x ∈ M, 0 ≤ x ∧ x ≤ 255) (h : str L = str M) : L = M := by
  have h1 : L.map (fun n => UInt8.ofNat n.toNat) = M.map (fun n => UInt8.ofNat n.toNat) := by
    have := congrArg (fun b : ByteArray => b.data.toList) h
    simpa [str] using this
  clear h
  induction L generalizing M with
  | nil => cases M with
    | nil => rfl
    | cons _ _ => simp at h1
  | cons a L ih => cases M with
    | nil => simp at h1
    | cons b M =>
      simp only [List.map_cons, List.cons.injEq] at h1
      have ha := hL a (by simp)
      have hb := hM b (by simp)
      have e := congrArg UInt8.toNat h1.1
      simp at e
      have : a = b := by omega
      rw [this, ih (fun x hx => hL x (by simp [hx])) (fun x hx => hM x (by simp [hx])) h1.2]
end Go.Em

namespace Go.Em
open Go.RowKit

/-- The string s has the bytes L. -/
def IsStr (s : ByteArray) (L : List Int) : Prop := s = str L ∧ ∀ x ∈ L, 0 ≤ x ∧ x ≤ 255

theorem isStr_of (s : ByteArray) : ∃ L, IsStr s L := by
  refine ⟨s.data.toList.map fun c => (c.toNat : Int), ?_, ?_⟩
  · unfold str
    cases s with
    | mk d =>
      congr 1
      rw [List.map_map]
      have : ((fun n : Int => UInt8.ofNat n.toNat) ∘ fun c : UInt8 => (c.toNat : Int)) = id := by funext c; simp
      rw [this]; simp
  · intro x hx
    simp only [List.mem_map] at hx
    obtain ⟨c, -, rfl⟩ := hx
    have := c.toNat_lt
    omega
theorem isStr_str {L : List Int} (h : ∀ x ∈ L, 0 ≤ x ∧ x ≤ 255) : IsStr (str L) L := ⟨rfl, h⟩
theorem IsStr.size {s : ByteArray} {L : List Int} (h : IsStr s L) : s.size = L.length := by
  rw [h.1]; simp [str, ByteArray.size]
theorem IsStr.get {s : ByteArray} {L : List Int} (h : IsStr s L) (k : Nat) (hk : k < s.size) : ((s[k]'hk).toNat : Int) = L[k]?.getD 0 := by
  obtain ⟨rfl, hb⟩ := h
  have hk' : k < L.length := by simpa [str, ByteArray.size] using hk
  have hx := hb (L[k]) (List.getElem_mem hk')
  have e : ((str L)[k]'hk) = UInt8.ofNat (L[k]).toNat := by
    simp [str, ByteArray.getElem_eq_getElem_data]
  rw [e, List.getElem?_eq_getElem hk', Option.getD_some]
  simp
  omega
theorem IsStr.extract {s : ByteArray} {L : List Int} (h : IsStr s L) (a b : Nat) : IsStr (s.extract a b) ((L.drop a).take (b - a)) := by
  refine ⟨?_, fun x hx => h.2 x (List.mem_of_mem_drop (List.mem_of_mem_take hx))⟩
  rw [h.1]
  unfold str
  rw [ByteArray.extract_mk]
  simp [List.map_take, List.map_drop]
theorem IsStr.beq {s t : ByteArray} {L M : List Int} (h : IsStr s L) (k : IsStr t M) : (s.toList == t.toList) = decide (L = M) := by
  by_cases e : L = M
  · subst e
    rw [h.1, k.1]; simp
  · rw [decide_eq_false e, beq_eq_false_iff_ne]
    intro he
    exact e (str_inj h.2 k.2 (by rw [← h.1, ← k.1]; exact toList_inj he))
theorem IsStr.inj {s : ByteArray} {L M : List Int} (h : IsStr s L) (k : IsStr s M) : L = M := str_inj h.2 k.2 (by rw [← h.1, ← k.1])
theorem ret_bool {a b : Bool} (h : a = b) : Ending.returned (.bool a) = .returned (.bool b) := by rw [h]
theorem ret_int {k : IntKind} {a b : Int} (h : a = b) : Ending.returned (.int k a) = .returned (.int k b) := by rw [h]
theorem bcell {W w1 : World} (hb : Below W.heap.size W w1) : (∀ b o, b < W.heap.size → w1.cell? ⟨b, o, none⟩ = W.cell? ⟨b, o, none⟩) ∧ (∀ b o, b < W.heap.size → w1.frozen? ⟨b, o, none⟩ = W.frozen? ⟨b, o, none⟩) :=
  ⟨fun b o h => hb.cell (p := ⟨b, o, none⟩) h, fun b o h => hb.frozen (p := ⟨b, o, none⟩) h⟩
theorem below_set4 {B g : Nat} {w w1 : World} (h : Below B w w1) (hg : B ≤ g) (a b c d : Value) : Below B w ((((w1.setCell ⟨g, 0, none⟩ a).setCell ⟨g, 1, none⟩ b).setCell ⟨g, 2, none⟩ c).setCell ⟨g, 3, none⟩ d) :=
  (((h.setCell (p := ⟨g, 0, none⟩) hg _).setCell (p := ⟨g, 1, none⟩) hg _).setCell (p := ⟨g, 2, none⟩) hg _).setCell (p := ⟨g, 3, none⟩) hg _
theorem held1 {B : Nat} {w w' : World} {p : Prop} (h : Below B w w' ∧ p) : Below B w w' := h.1
theorem below_drewN {B : Nat} {a w : World} (h : Below B a w) (n : Nat) : Below B a (w.drewN n) := ⟨h.os, h.tape, h.output, h.size, h.block⟩
end Go.Em

namespace Go.Proofs.YtoekhejpompjlaaDoor
open Go.RowKit

theorem isBytes_one (w : World) (x : Int) (t : TypeId) (hx : 0 ≤ x ∧ x ≤ 255) : Em.IsBytes (w.alloc (.cells #[.int .u8 x] t)) (.slice (some ⟨w.heap.size, 0, none⟩) 1 1) [x] := by
  refine ⟨some ⟨w.heap.size, 0, none⟩, 1, rfl, ?_⟩
  simp [maxLen]
  exact ⟨hx, by simp [Addr.add]⟩
theorem str_size (L : List Int) : (Em.str L).size = L.length := by simp [Em.str, ByteArray.size]
theorem str_app (L M : List Int) : Em.str L ++ Em.str M = Em.str (L ++ M) := by
  unfold Em.str
  rw [List.map_append]
  rfl

theorem isStr_app {s t : ByteArray} {L M : List Int} (h : Em.IsStr s L) (k : Em.IsStr t M) : Em.IsStr (s ++ t) (L ++ M) := by
  refine ⟨by rw [h.1, k.1, str_app], fun x hx => ?_⟩
  rcases List.mem_append.1 hx with e | e
  · exact h.2 x e
  · exact k.2 x e
end Go.Proofs.YtoekhejpompjlaaDoor

namespace Go.Em5
open Go.RowKit

/-- An expression: its op, its names, its number, its place, its kids. -/
inductive Nd where
  | mk (op nm ar : List Int) (n p : Int) (kids : List Nd) : Nd

def Nd.op : Nd → List Int | .mk a _ _ _ _ _ => a
def Nd.nm : Nd → List Int | .mk _ a _ _ _ _ => a
def Nd.ar : Nd → List Int | .mk _ _ a _ _ _ => a
def Nd.n : Nd → Int | .mk _ _ _ a _ _ => a
def Nd.p : Nd → Int | .mk _ _ _ _ a _ => a
def Nd.kids : Nd → List Nd | .mk _ _ _ _ _ a => a

theorem Nd.ind {P : Nd → Prop} (h : ∀ op nm ar n p l, (∀ t ∈ l, P t) → P (.mk op nm ar n p l)) : ∀ t, P t
  | .mk op nm ar n p l => h op nm ar n p l (fun t _ => Nd.ind h t)

/-- A byte string as a cell may hold it. -/
def Txt (L : List Int) : Prop := (∀ x ∈ L, 0 ≤ x ∧ x ≤ 255) ∧ L.length ≤ 140737488351232
def I64 (n : Int) : Prop := -9223372036854775808 ≤ n ∧ n ≤ 9223372036854775807

mutual
/-- In the world w the value v is the expression. -/
def IsNd (w : World) : Nd → Value → Prop
  | .mk op nm ar n p l, v => ∃ a cap, v = .agg #[.string (Em.str op), .string (Em.str nm), .string (Em.str ar), .int .i64 n, .int .i64 p, .slice a l.length cap] ∧
      Txt op ∧ Txt nm ∧ Txt ar ∧ I64 n ∧ I64 p ∧ l.length ≤ cap ∧ cap ≤ 9223372036854775807 ∧ (0 < l.length → ∃ b off, a = some ⟨b, off, none⟩ ∧ b < w.heap.size ∧ KidsAt w b off l)
/-- At the place off of the block b the expressions lie one behind the other. -/
def KidsAt (w : World) (b : Nat) : Nat → List Nd → Prop
  | _, [] => True
  | off, t :: r => (∃ c0 c1 c2 c3 c4 c5, w.cell? ⟨b, off, none⟩ = some c0 ∧ w.cell? ⟨b, off + 1, none⟩ = some c1 ∧ w.cell? ⟨b, off + 2, none⟩ = some c2 ∧ w.cell? ⟨b, off + 3, none⟩ = some c3 ∧ w.cell? ⟨b, off + 4, none⟩ = some c4 ∧ w.cell? ⟨b, off + 5, none⟩ = some c5 ∧ IsNd w t (.agg #[c0, c1, c2, c3, c4, c5])) ∧ KidsAt w b (off + 6) r
end

theorem kidsAt_get {w : World} {b : Nat} : ∀ (l : List Nd) (off j : Nat) (t : Nd), KidsAt w b off l → l[j]? = some t →
    ∃ c0 c1 c2 c3 c4 c5, w.cell? ⟨b, off + j * 6, none⟩ = some c0 ∧ w.cell? ⟨b, off + j * 6 + 1, none⟩ = some c1 ∧ w.cell? ⟨b, off + j * 6 + 2, none⟩ = some c2 ∧ w.cell? ⟨b, off + j * 6 + 3, none⟩ = some c3 ∧ w.cell? ⟨b, off + j * 6 + 4, none⟩ = some c4 ∧ w.cell? ⟨b, off + j * 6 + 5, none⟩ = some c5 ∧ IsNd w t (.agg #[c0, c1, c2, c3, c4, c5])
  | [], _, _, _, _, h => by simp at h
  | x :: r, off, 0, t, hk, h => by
    simp at h; subst h
    unfold KidsAt at hk
    simpa using hk.1
  | x :: r, off, j + 1, t, hk, h => by
    unfold KidsAt at hk
    have := kidsAt_get r (off + 6) j t hk.2 (by simpa using h)
    rw [show off + (j + 1) * 6 = off + 6 + j * 6 by omega]
    exact this

theorem kidsAt_mk {w : World} {b : Nat} : ∀ (l : List Nd) (off : Nat), (∀ j t, l[j]? = some t →
    ∃ c0 c1 c2 c3 c4 c5, w.cell? ⟨b, off + j * 6, none⟩ = some c0 ∧ w.cell? ⟨b, off + j * 6 + 1, none⟩ = some c1 ∧ w.cell? ⟨b, off + j * 6 + 2, none⟩ = some c2 ∧ w.cell? ⟨b, off + j * 6 + 3, none⟩ = some c3 ∧ w.cell? ⟨b, off + j * 6 + 4, none⟩ = some c4 ∧ w.cell? ⟨b, off + j * 6 + 5, none⟩ = some c5 ∧ IsNd w t (.agg #[c0, c1, c2, c3, c4, c5])) → KidsAt w b off l
  | [], _, _ => by unfold KidsAt; trivial
  | x :: r, off, h => by
    unfold KidsAt
    refine ⟨by simpa using h 0 x rfl, kidsAt_mk r (off + 6) fun j t hj => ?_⟩
    have := h (j + 1) t (by simpa using hj)
    rw [show off + (j + 1) * 6 = off + 6 + j * 6 by omega] at this
    exact this

/-- What is handed in stays as it is, if memory is only made. -/
theorem isNd_below {w w' : World} (hb : Below w.heap.size w w') : ∀ (t : Nd) (v : Value), IsNd w t v → IsNd w' t v := by
  intro t
  induction t using Nd.ind with
  | h op nm ar n p l ih =>
    intro v h
    unfold IsNd at h ⊢
    obtain ⟨a, cap, h1, h2, h3, h4, h5, h6, h7, h8, h9⟩ := h
    refine ⟨a, cap, h1, h2, h3, h4, h5, h6, h7, h8, fun hp => ?_⟩
    obtain ⟨b, off, e, hlt, hk⟩ := h9 hp
    refine ⟨b, off, e, Nat.lt_of_lt_of_le hlt hb.size, kidsAt_mk l off fun j t hj => ?_⟩
    obtain ⟨c0, c1, c2, c3, c4, c5, k0, k1, k2, k3, k4, k5, kn⟩ := kidsAt_get l off j t hk hj
    have key : ∀ o, w'.cell? ⟨b, o, none⟩ = w.cell? ⟨b, o, none⟩ := fun o => hb.cell (p := ⟨b, o, none⟩) hlt
    exact ⟨c0, c1, c2, c3, c4, c5, by rw [key]; exact k0, by rw [key]; exact k1, by rw [key]; exact k2, by rw [key]; exact k3, by rw [key]; exact k4, by rw [key]; exact k5, ih t (List.mem_of_getElem? hj) _ kn⟩

/-! ### How many nodes -/
mutual
def Nd.size : Nd → Nat | .mk _ _ _ _ _ l => sizes l + 1
def sizes : List Nd → Nat | [] => 0 | t :: r => t.size + sizes r
end
theorem size_pos : ∀ t : Nd, 1 ≤ t.size | .mk _ _ _ _ _ _ => by unfold Nd.size; omega
theorem sizes_app (a b : List Nd) : sizes (a ++ b) = sizes a + sizes b := by
  induction a with
  | nil => simp [sizes]
  | cons x r ih => simp only [List.cons_append, sizes, ih]; omega
theorem sizes_take (l : List Nd) (j : Nat) (t : Nd) (h : l[j]? = some t) : sizes (l.take (j + 1)) = sizes (l.take j) + t.size := by
  have hj := (List.getElem?_eq_some_iff.1 h).1
  have e : l[j] = t := (List.getElem?_eq_some_iff.1 h).2
  rw [List.take_succ_eq_append_getElem hj, sizes_app, e]
  simp [sizes]
theorem sizes_take_le (l : List Nd) (j : Nat) : sizes (l.take j) ≤ sizes l := by
  have := sizes_app (l.take j) (l.drop j)
  rw [List.take_append_drop] at this
  omega
end Go.Em5

namespace Go.Em5
open Go.RowKit

/-- The cells of an expression whose kids' row is (a, cap). -/
def ndV (t : Nd) (a : Option Addr) (cap : Nat) : Value := .agg #[.string (Em.str t.op), .string (Em.str t.nm), .string (Em.str t.ar), .int .i64 t.n, .int .i64 t.p, .slice a t.kids.length cap]

theorem kid_get {w : World} {b : Nat} {l : List Nd} {off j : Nat} {t : Nd} (h : KidsAt w b off l) (ht : l[j]? = some t) :
    ∃ a cap, w.cell? ⟨b, off + j * 6, none⟩ = some (.string (Em.str t.op)) ∧ w.cell? ⟨b, off + j * 6 + 1, none⟩ = some (.string (Em.str t.nm)) ∧ w.cell? ⟨b, off + j * 6 + 2, none⟩ = some (.string (Em.str t.ar)) ∧
      w.cell? ⟨b, off + j * 6 + 3, none⟩ = some (.int .i64 t.n) ∧ w.cell? ⟨b, off + j * 6 + 4, none⟩ = some (.int .i64 t.p) ∧ w.cell? ⟨b, off + j * 6 + 5, none⟩ = some (.slice a t.kids.length cap) ∧
      IsNd w t (.agg #[.string (Em.str t.op), .string (Em.str t.nm), .string (Em.str t.ar), .int .i64 t.n, .int .i64 t.p, .slice a t.kids.length cap]) := by
  obtain ⟨c0, c1, c2, c3, c4, c5, k0, k1, k2, k3, k4, k5, kn⟩ := kidsAt_get l off j t h ht
  obtain ⟨op, nm, ar, n, p, m⟩ := t
  have kn' := kn
  unfold IsNd at kn'
  obtain ⟨a, cap, e, -⟩ := kn'
  simp only [Value.agg.injEq, Array.mk.injEq, List.cons.injEq, and_true] at e
  obtain ⟨rfl, rfl, rfl, rfl, rfl, rfl⟩ := e
  exact ⟨a, cap, k0, k1, k2, k3, k4, k5, kn⟩
end Go.Em5

namespace Go.Em4
open Go.RowKit

def ltr (c : Int) : Bool := decide (97 ≤ c) && decide (c ≤ 122)
def dgt (c : Int) : Bool := decide (48 ≤ c) && decide (c ≤ 57)
def nmc (c : Int) : Bool := ltr c || (dgt c || (decide (c = 95) || decide (c = 39)))
def blank (c : Int) : Bool := decide (c = 32) || (decide (c = 9) || decide (c = 10))
/-- A byte that a string may have. -/
def prn (c : Int) : Bool := decide (32 ≤ c) && (decide (c ≤ 126) && !decide (c = 34))
def words : List (List Int) := [[108, 101, 116], [114, 101, 99], [105, 110], [102, 117, 110], [105, 102], [116, 104, 101, 110], [101, 108, 115, 101], [109, 97, 116, 99, 104], [119, 105, 116, 104], [116, 114, 121], [114, 97, 105, 115, 101], [116, 114, 117, 101], [102, 97, 108, 115, 101], [102, 115, 116], [115, 110, 100], [114, 101, 102], [99, 101, 108, 108], [116, 97, 103], [108, 105, 110, 107, 115], [108, 105, 110, 107], [115, 105, 122, 101], [112, 114, 105, 110, 116]]
def signs : List (List Int) := [[58, 61], [58, 58], [45, 62], [40], [41], [91], [93], [44], [59], [61], [60], [43], [45], [42], [94], [33], [124]]
/-- How many bytes there are ahead of the first one that is not such. -/
def span (p : Int → Bool) : List Int → Nat
  | [] => 0
  | c :: r => if p c then span p r + 1 else 0
def dec (L : List Int) : Int := L.foldl (fun v c => 10 * v + (c - 48)) 0
def sgn (L : List Int) : List Int := ((signs.find? fun s => s.isPrefixOf L).getD [])
/-- A token: its kind, its text, its number, where it begins. -/
structure Tok where
  kind : Int
  text : List Int
  num : Int
  pos : Nat
deriving DecidableEq

def textOk (L : List Int) : Bool := L.all prn && decide (L.length ≤ 40)
def nameAt (L : List Int) : Option (Int × List Int × Int × Nat) :=
  let n := 1 + span nmc (L.drop 1)
  if L.take n ∈ words then some (4, L.take n, 0, n) else if 12 < n then none else some (1, L.take n, 0, n)
def numAt (L : List Int) : Option (Int × List Int × Int × Nat) :=
  let n := span dgt L
  if 18 < n ∨ (1 < n ∧ L.head? = some 48) then none else some (2, [], dec (L.take n), n)
def strAt (L : List Int) : Option (Int × List Int × Int × Nat) :=
  let m := span (fun c => !decide (c = 34)) (L.drop 1)
  if m = L.length - 1 ∨ textOk ((L.drop 1).take m) = false then none else some (3, (L.drop 1).take m, 0, m + 2)
def sgnAt (L : List Int) : Option (Int × List Int × Int × Nat) :=
  if sgn L = [] then none else some (4, sgn L, 0, (sgn L).length)
/-- The token that stands at the head, and how many bytes it has. -/
def tokAt : List Int → Option (Int × List Int × Int × Nat)
  | [] => none
  | c :: r => if ltr c then nameAt (c :: r) else if dgt c then numAt (c :: r) else if c = 34 then strAt (c :: r) else sgnAt (c :: r)

/-- All tokens from the place i on, or the place of the first error. -/
def toksF : Nat → Nat → List Int → Except Nat (List Tok)
  | _, i, [] => .ok [⟨5, [], 0, i⟩]
  | 0, _, _ :: _ => .ok []
  | f + 1, i, c :: r =>
    if blank c then toksF f (i + 1) r
    else match tokAt (c :: r) with
      | none => .error i
      | some (k, t, n, m) => match toksF f (i + m) ((c :: r).drop m) with
        | .error j => .error j
        | .ok l => .ok (⟨k, t, n, i⟩ :: l)
def toks (L : List Int) : Except Nat (List Tok) := toksF L.length 0 L

/-- Is it one whole name? -/
def nameOk (L : List Int) : Bool := match L with
  | [] => false
  | c :: _ => ltr c && (match nameAt L with
    | some (k, _, _, m) => decide (k = 1) && decide (m = L.length)
    | none => false)

/-! ### Spans -/
theorem span_le (p : Int → Bool) : ∀ L, span p L ≤ L.length
  | [] => by simp [span]
  | c :: r => by
    unfold span
    have := span_le p r
    split <;> simp <;> omega
theorem span_all (p : Int → Bool) : ∀ (L : List Int) (j : Nat), j < span p L → p (L[j]?.getD 0) = true
  | [], j, h => by simp [span] at h
  | c :: r, j, h => by
    unfold span at h
    split at h
    · rename_i hc
      cases j with
      | zero => simpa using hc
      | succ j => simpa using span_all p r j (by omega)
    · omega
theorem span_stop (p : Int → Bool) : ∀ (L : List Int), span p L < L.length → p (L[span p L]?.getD 0) = false
  | [], h => by simp [span] at h
  | c :: r, h => by
    unfold span at h ⊢
    split
    · rename_i hc
      simp only [hc, if_true] at h
      simpa using span_stop p r (by simpa using h)
    · rename_i hc
      simpa using hc
/-- A span ends where the first byte that is not such stands, or where all ends. -/
theorem span_eq {p : Int → Bool} {L : List Int} {n : Nat} (hn : n ≤ L.length) (h1 : ∀ j, j < n → p (L[j]?.getD 0) = true) (h2 : n < L.length → p (L[n]?.getD 0) = false) : span p L = n := by
  rcases Nat.lt_trichotomy (span p L) n with h | h | h
  · have := span_stop p L (by omega)
    rw [h1 _ h] at this
    cases this
  · exact h
  · have := span_all p L n h
    have hs := span_le p L
    rw [h2 (by omega)] at this
    cases this
theorem tokAt_pos {L : List Int} {k n : Int} {t : List Int} {m : Nat} (h : tokAt L = some (k, t, n, m)) : 0 < m := by
  cases L with
  | nil => simp [tokAt] at h
  | cons c r =>
    simp only [tokAt] at h
    split at h
    · unfold nameAt at h
      simp only at h
      split at h
      · simp at h; omega
      · split at h
        · cases h
        · simp at h; omega
    · split at h
      · rename_i hd
        unfold numAt at h
        simp only at h
        split at h
        · cases h
        · simp only [Option.some.injEq, Prod.mk.injEq] at h
          rw [← h.2.2.2]; unfold span; rw [if_pos hd]; omega
      · split at h
        · unfold strAt at h
          simp only at h
          split at h
          · cases h
          · simp at h; omega
        · unfold sgnAt at h
          split at h
          · cases h
          · rename_i hs
            simp only [Option.some.injEq, Prod.mk.injEq] at h
            rw [← h.2.2.2]; exact List.length_pos_iff.2 hs
theorem sgn_pre {L : List Int} : (sgn L).isPrefixOf L = true := by
  unfold sgn
  cases h : signs.find? fun s => s.isPrefixOf L with
  | none => simp
  | some s => simpa using List.find?_some h
theorem tokAt_le {L : List Int} {k n : Int} {t : List Int} {m : Nat} (h : tokAt L = some (k, t, n, m)) : m ≤ L.length := by
  cases L with
  | nil => simp [tokAt] at h
  | cons c r =>
    simp only [tokAt] at h
    split at h
    · unfold nameAt at h
      simp only at h
      have hs := span_le nmc ((c :: r).drop 1)
      simp only [List.drop_succ_cons, List.drop_zero] at hs h
      split at h
      · simp at h; simp; omega
      · split at h
        · cases h
        · simp at h; simp; omega
    · split at h
      · unfold numAt at h
        simp only at h
        have hs := span_le dgt (c :: r)
        split at h
        · cases h
        · simp only [Option.some.injEq, Prod.mk.injEq] at h
          rw [← h.2.2.2]; exact hs
      · split at h
        · unfold strAt at h
          simp only at h
          have hs := span_le (fun c => !decide (c = 34)) ((c :: r).drop 1)
          simp only [List.drop_succ_cons, List.drop_zero, List.length_cons, Nat.add_sub_cancel] at hs h
          split at h
          · cases h
          · rename_i hn
            simp only [Option.some.injEq, Prod.mk.injEq] at h
            simp only [List.length_cons]
            omega
        · unfold sgnAt at h
          split at h
          · cases h
          · simp only [Option.some.injEq, Prod.mk.injEq] at h
            rw [← h.2.2.2]
            have := sgn_pre (L := c :: r)
            rw [List.isPrefixOf_iff_prefix] at this
            exact this.length_le
/-- The fuel does not matter, if there is enough. -/
theorem toksF_more : ∀ (f g i : Nat) (L : List Int), L.length ≤ f → L.length ≤ g → toksF f i L = toksF g i L
  | f, g, i, [], _, _ => by cases f <;> cases g <;> rfl
  | 0, g, i, c :: r, h, _ => by simp at h
  | f + 1, 0, i, c :: r, _, h => by simp at h
  | f + 1, g + 1, i, c :: r, hf, hg => by
    unfold toksF
    simp only [List.length_cons] at hf hg
    split
    · exact toksF_more f g (i + 1) r (by omega) (by omega)
    · cases ht : tokAt (c :: r) with
      | none => rfl
      | some p =>
        obtain ⟨k, t, n, m⟩ := p
        have hm := tokAt_pos ht
        have hl : ((c :: r).drop m).length ≤ r.length := by simp; omega
        simp only
        rw [toksF_more f g (i + m) ((c :: r).drop m) (by omega) (by omega)]
theorem toks_blank {L : List Int} {i : Nat} {c : Int} {r : List Int} (hd : L.drop i = c :: r) (hb : blank c = true) : toksF (L.drop i).length i (L.drop i) = toksF (L.drop (i + 1)).length (i + 1) (L.drop (i + 1)) := by
  have e : L.drop (i + 1) = r := by rw [← List.drop_drop, hd]; rfl
  rw [hd, e]
  simp only [List.length_cons]
  conv => lhs; unfold toksF
  rw [if_pos hb]
theorem toks_none {L : List Int} {i : Nat} {c : Int} {r : List Int} (hd : L.drop i = c :: r) (hb : blank c = false) (ht : tokAt (c :: r) = none) : toksF (L.drop i).length i (L.drop i) = .error i := by
  rw [hd]
  simp only [List.length_cons]
  unfold toksF
  rw [if_neg (by rw [hb]; decide), ht]
/-- A token ahead. -/
def cns (t : Tok) : Except Nat (List Tok) → Except Nat (List Tok)
  | .error j => .error j
  | .ok l => .ok (t :: l)
theorem toks_some {L : List Int} {i : Nat} {c : Int} {r : List Int} {k n : Int} {t : List Int} {m : Nat} (hd : L.drop i = c :: r) (hb : blank c = false) (ht : tokAt (c :: r) = some (k, t, n, m)) :
    toksF (L.drop i).length i (L.drop i) = cns ⟨k, t, n, i⟩ (toksF (L.drop (i + m)).length (i + m) (L.drop (i + m))) := by
  have e : L.drop (i + m) = (c :: r).drop m := by rw [← List.drop_drop, hd]
  have hm := tokAt_pos ht
  rw [e, hd]
  simp only [List.length_cons]
  conv => lhs; unfold toksF
  rw [if_neg (by rw [hb]; decide), ht]
  simp only
  rw [toksF_more r.length ((c :: r).drop m).length (i + m) _ (by simp; omega) (Nat.le_refl _)]
  rfl
theorem toks_end {L : List Int} {i : Nat} (h : i = L.length) : toksF (L.drop i).length i (L.drop i) = .ok [⟨5, [], 0, L.length⟩] := by
  rw [h, List.drop_length]; rfl
/-! ### Numbers -/
theorem dec_snoc (L : List Int) (c : Int) : dec (L ++ [c]) = 10 * dec L + (c - 48) := by simp [dec]
theorem take_snoc {L : List Int} {k : Nat} (h : k < L.length) : L.take (k + 1) = L.take k ++ [L[k]?.getD 0] := by
  rw [List.take_succ_eq_append_getElem h, List.getElem?_eq_getElem h]; rfl
theorem dec_bd : ∀ (n : Nat) (L : List Int), n ≤ L.length → (∀ j, j < n → dgt (L[j]?.getD 0) = true) → 0 ≤ dec (L.take n) ∧ dec (L.take n) < 10 ^ n
  | 0, L, _, _ => by simp [dec]
  | n + 1, L, hn, h => by
    have ih := dec_bd n L (by omega) (fun j hj => h j (by omega))
    have hd := h n (by omega)
    rw [take_snoc (by omega), dec_snoc]
    simp only [dgt, Bool.and_eq_true, decide_eq_true_eq] at hd
    rw [Int.pow_succ]
    omega
end Go.Em4

namespace Go.Em4
open Go.RowKit

def Byt (L : List Int) : Prop := ∀ x ∈ L, 0 ≤ x ∧ x ≤ 255
theorem sgn_mem (L : List Int) : sgn L = [] ∨ sgn L ∈ signs := by
  unfold sgn
  cases h : signs.find? fun s => s.isPrefixOf L with
  | none => exact .inl rfl
  | some s => exact .inr (List.mem_of_find?_eq_some h)
theorem tokAt_byt {L : List Int} (hL : Byt L) {k n : Int} {t : List Int} {m : Nat} (h : tokAt L = some (k, t, n, m)) : Byt t := by
  cases L with
  | nil => simp [tokAt] at h
  | cons c r =>
    simp only [tokAt] at h
    split at h
    · unfold nameAt at h
      simp only at h
      split at h
      · simp only [Option.some.injEq, Prod.mk.injEq] at h
        rw [← h.2.1]; exact fun x hx => hL x (List.mem_of_mem_take hx)
      · split at h
        · cases h
        · simp only [Option.some.injEq, Prod.mk.injEq] at h
          rw [← h.2.1]; exact fun x hx => hL x (List.mem_of_mem_take hx)
    · split at h
      · unfold numAt at h
        simp only at h
        split at h
        · cases h
        · simp only [Option.some.injEq, Prod.mk.injEq] at h
          rw [← h.2.1]; exact fun x hx => by cases hx
      · split at h
        · unfold strAt at h
          simp only at h
          split at h
          · cases h
          · simp only [Option.some.injEq, Prod.mk.injEq] at h
            rw [← h.2.1]; exact fun x hx => hL x (List.mem_of_mem_drop (List.mem_of_mem_take hx))
        · unfold sgnAt at h
          split at h
          · cases h
          · simp only [Option.some.injEq, Prod.mk.injEq] at h
            rw [← h.2.1]
            rcases sgn_mem (c :: r) with e | e
            · rw [e]; exact fun x hx => by cases hx
            · have : ∀ l ∈ signs, ∀ x ∈ l, (0 : Int) ≤ x ∧ x ≤ 255 := by decide
              exact this _ e
theorem toksF_byt : ∀ (f i : Nat) (L : List Int) (T : List Tok), Byt L → toksF f i L = .ok T → ∀ t ∈ T, Byt t.text
  | f, i, [], T, _, h => by
    cases f <;> (simp only [toksF, Except.ok.injEq] at h; subst h; intro t ht; simp at ht; subst ht; exact fun x hx => by cases hx)
  | 0, i, c :: r, T, _, h => by
    simp only [toksF, Except.ok.injEq] at h; subst h; intro t ht; cases ht
  | f + 1, i, c :: r, T, hL, h => by
    unfold toksF at h
    split at h
    · exact toksF_byt f (i + 1) r T (fun x hx => hL x (List.mem_cons_of_mem _ hx)) h
    · cases ht : tokAt (c :: r) with
      | none => rw [ht] at h; cases h
      | some p =>
        obtain ⟨k, t, n, m⟩ := p
        rw [ht] at h
        simp only at h
        cases hr : toksF f (i + m) ((c :: r).drop m) with
        | error j => rw [hr] at h; cases h
        | ok T' =>
          rw [hr] at h
          simp only [Except.ok.injEq] at h
          subst h
          intro t' ht'
          rcases List.mem_cons.1 ht' with e | e
          · subst e; exact tokAt_byt hL ht
          · exact toksF_byt f (i + m) _ T' (fun x hx => hL x (List.mem_of_mem_drop hx)) hr t' e
theorem toks_byt {L : List Int} {T : List Tok} (hL : Byt L) (h : toks L = .ok T) : ∀ t ∈ T, Byt t.text := toksF_byt _ _ _ _ hL h
theorem toksF_len : ∀ (f i : Nat) (L : List Int) (T : List Tok), toksF f i L = .ok T → T.length ≤ L.length + 1
  | f, i, [], T, h => by
    cases f <;> (simp only [toksF, Except.ok.injEq] at h; subst h; simp)
  | 0, i, c :: r, T, h => by
    simp only [toksF, Except.ok.injEq] at h; subst h; simp
  | f + 1, i, c :: r, T, h => by
    unfold toksF at h
    split at h
    · have := toksF_len f (i + 1) r T h
      simp; omega
    · cases ht : tokAt (c :: r) with
      | none => rw [ht] at h; cases h
      | some p =>
        obtain ⟨k, t, n, m⟩ := p
        rw [ht] at h
        simp only at h
        cases hr : toksF f (i + m) ((c :: r).drop m) with
        | error j => rw [hr] at h; cases h
        | ok T' =>
          rw [hr] at h
          simp only [Except.ok.injEq] at h
          subst h
          have h1 := toksF_len f (i + m) _ T' hr
          have h2 := tokAt_pos ht
          simp at h1 ⊢; omega
theorem toks_len {L : List Int} {T : List Tok} (h : toks L = .ok T) : T.length ≤ L.length + 1 := toksF_len _ _ _ _ h

theorem toksF_ne : ∀ (f i : Nat) (L : List Int) (T : List Tok), L.length ≤ f → toksF f i L = .ok T → 0 < T.length
  | f, i, [], T, _, h => by
    cases f <;> (simp only [toksF, Except.ok.injEq] at h; subst h; simp)
  | 0, i, c :: r, T, hf, h => by simp at hf
  | f + 1, i, c :: r, T, hf, h => by
    unfold toksF at h
    simp only [List.length_cons] at hf
    split at h
    · exact toksF_ne f (i + 1) r T (by omega) h
    · cases ht : tokAt (c :: r) with
      | none => rw [ht] at h; cases h
      | some p =>
        obtain ⟨k, t, n, m⟩ := p
        rw [ht] at h
        simp only at h
        cases hr : toksF f (i + m) ((c :: r).drop m) with
        | error j => rw [hr] at h; cases h
        | ok T' =>
          rw [hr] at h
          simp only [Except.ok.injEq] at h
          subst h; simp
theorem toks_ne {L : List Int} {T : List Tok} (h : toks L = .ok T) : 0 < T.length := toksF_ne _ _ _ _ (Nat.le_refl _) h
theorem toksF_pos : ∀ (f i : Nat) (L : List Int) (T : List Tok), toksF f i L = .ok T → ∀ t ∈ T, t.pos ≤ i + L.length
  | f, i, [], T, h => by
    cases f <;> (simp only [toksF, Except.ok.injEq] at h; subst h; intro t ht; simp at ht; subst ht; simp)
  | 0, i, c :: r, T, h => by
    simp only [toksF, Except.ok.injEq] at h; subst h; intro t ht; cases ht
  | f + 1, i, c :: r, T, h => by
    unfold toksF at h
    split at h
    · intro t ht
      have := toksF_pos f (i + 1) r T h t ht
      simp; omega
    · cases ht : tokAt (c :: r) with
      | none => rw [ht] at h; cases h
      | some p =>
        obtain ⟨k, t, n, m⟩ := p
        rw [ht] at h
        simp only at h
        cases hr : toksF f (i + m) ((c :: r).drop m) with
        | error j => rw [hr] at h; cases h
        | ok T' =>
          rw [hr] at h
          simp only [Except.ok.injEq] at h
          subst h
          intro t' ht'
          have h2 := tokAt_le ht
          rcases List.mem_cons.1 ht' with e | e
          · subst e; simp
          · have h1 := toksF_pos f (i + m) _ T' hr t' e
            rw [List.length_drop] at h1
            omega
theorem toks_pos {L : List Int} {T : List Tok} (h : toks L = .ok T) : ∀ t ∈ T, t.pos ≤ L.length := fun t ht => by
  have := toksF_pos _ _ _ _ h t ht; omega

/-! ### Blanks ahead -/
def Tok.mv (d : Nat) (t : Tok) : Tok := { t with pos := t.pos + d }
def mvR (d : Nat) : Except Nat (List Tok) → Except Nat (List Tok)
  | .error j => .error (j + d)
  | .ok l => .ok (l.map (Tok.mv d))
theorem toksF_mv (d : Nat) : ∀ (f i : Nat) (L : List Int), toksF f (i + d) L = mvR d (toksF f i L)
  | f, i, [] => by cases f <;> rfl
  | 0, i, c :: r => rfl
  | f + 1, i, c :: r => by
    unfold toksF
    split
    · rw [show i + d + 1 = (i + 1) + d by omega]; exact toksF_mv d f (i + 1) r
    · cases ht : tokAt (c :: r) with
      | none => rfl
      | some p =>
        obtain ⟨k, t, n, m⟩ := p
        simp only
        rw [show i + d + m = (i + m) + d by omega, toksF_mv d f (i + m) _]
        cases toksF f (i + m) ((c :: r).drop m) <;> rfl
theorem toks_blanks : ∀ (B L : List Int), (∀ c ∈ B, blank c = true) → toks (B ++ L) = mvR B.length (toks L)
  | [], L, _ => by
    simp only [List.nil_append, List.length_nil]
    cases h : toks L with
    | error j => rfl
    | ok l =>
      have : Tok.mv 0 = id := by funext t; cases t; rfl
      simp [mvR, this]
  | c :: B, L, hB => by
    have ih := toks_blanks B L (fun x hx => hB x (List.mem_cons_of_mem _ hx))
    have h1 : toks (c :: B ++ L) = toksF (B ++ L).length (0 + 1) (B ++ L) := by
      show toksF (c :: (B ++ L)).length 0 (c :: (B ++ L)) = _
      simp only [List.length_cons]
      conv => lhs; unfold toksF
      rw [if_pos (hB c (List.mem_cons_self ..))]
    rw [h1, toksF_mv 1 _ 0]
    show mvR 1 (toks (B ++ L)) = _
    rw [ih]
    cases toks L with
    | error j => simp [mvR]; omega
    | ok l => simp [mvR, Tok.mv, Function.comp_def]; intro t _; omega
end Go.Em4

namespace Go.Em5
open Go.RowKit

/-! ### Ops -/
def oInt : List Int := [105, 110, 116]
def oBool : List Int := [98, 111, 111, 108]
def oUnit : List Int := [117, 110, 105, 116]
def oNil : List Int := [110, 105, 108]
def oStr : List Int := [115, 116, 114]
def oVar : List Int := [118, 97, 114]
def oFun : List Int := [102, 117, 110]
def oRaise : List Int := [114, 97, 105, 115, 101]
def oGet : List Int := [103, 101, 116]
def oFst : List Int := [102, 115, 116]
def oSnd : List Int := [115, 110, 100]
def oRef : List Int := [114, 101, 102]
def oCell : List Int := [99, 101, 108, 108]
def oTag : List Int := [116, 97, 103]
def oLinks : List Int := [108, 105, 110, 107, 115]
def oSize : List Int := [115, 105, 122, 101]
def oPrint : List Int := [112, 114, 105, 110, 116]
def oLet : List Int := [108, 101, 116]
def oRec : List Int := [114, 101, 99]
def oTry : List Int := [116, 114, 121]
def oSeq : List Int := [115, 101, 113]
def oSet : List Int := [115, 101, 116]
def oEq : List Int := [101, 113]
def oLess : List Int := [108, 101, 115, 115]
def oCons : List Int := [99, 111, 110, 115]
def oAdd : List Int := [97, 100, 100]
def oSub : List Int := [115, 117, 98]
def oCat : List Int := [99, 97, 116]
def oMul : List Int := [109, 117, 108]
def oApp : List Int := [97, 112, 112]
def oPair : List Int := [112, 97, 105, 114]
def oLink : List Int := [108, 105, 110, 107]
def oIf : List Int := [105, 102]
def oMatch : List Int := [109, 97, 116, 99, 104]

def ops0 : List (List Int) := [oInt, oBool, oUnit, oNil, oStr, oVar]
def ops1 : List (List Int) := [oFun, oRaise, oGet, oFst, oSnd, oRef, oCell, oTag, oLinks, oSize, oPrint]
def ops2 : List (List Int) := [oLet, oRec, oTry, oSeq, oSet, oEq, oLess, oCons, oAdd, oSub, oCat, oMul, oApp, oPair, oLink]
def ops3 : List (List Int) := [oIf, oMatch]
/-- How many kids an op has; -1: it is none. -/
def kidsN (op : List Int) : Int := if op ∈ ops0 then 0 else if op ∈ ops1 then 1 else if op ∈ ops2 then 2 else if op ∈ ops3 then 3 else -1

/-! ### Which are such -/
def nameA (op nm : List Int) : Bool :=
  if op = oVar ∨ op = oFun ∨ op = oLet ∨ op = oTry ∨ op = oRec ∨ op = oMatch then Em4.nameOk nm else if op = oStr then Em4.textOk nm else decide (nm = [])
def nameB (op ar : List Int) : Bool := if op = oRec ∨ op = oMatch then Em4.nameOk ar else decide (ar = [])
def numOk (op : List Int) (n : Int) : Bool := if op = oInt then decide (0 ≤ n) && decide (n ≤ 999999999999999999) else if op = oBool then decide (n = 0) || decide (n = 1) else decide (n = 0)
def namesOk (t : Nd) : Bool := nameA t.op t.nm && (nameB t.op t.ar && numOk t.op t.n)
mutual
def each : Nd → Bool | .mk op nm ar n p l => decide (kidsN op = l.length) && (namesOk (.mk op nm ar n p l) && eachs l)
def eachs : List Nd → Bool | [] => true | t :: r => each t && eachs r
end
def isNd (t : Nd) : Bool := decide (t.size ≤ 2000) && each t
theorem eachs_iff (l : List Nd) : eachs l = true ↔ ∀ t ∈ l, each t = true := by
  induction l with
  | nil => simp [eachs]
  | cons x r ih => simp [eachs, ih]
theorem eachs_no {l : List Nd} {j : Nat} {t : Nd} (h : l[j]? = some t) (ht : each t = false) : eachs l = false := by
  rw [Bool.eq_false_iff]; intro h2
  have := (eachs_iff l).1 h2 t (List.mem_of_getElem? h)
  rw [ht] at this; cases this
theorem eachs_yes {l : List Nd} (h : ∀ j t, j < l.length → l[j]? = some t → each t = true) : eachs l = true :=
  (eachs_iff l).2 fun t ht => by
    obtain ⟨j, hj, e⟩ := List.getElem_of_mem ht
    exact h j t hj (by rw [List.getElem?_eq_getElem hj, e])

/-! ### Same ones, all but the places -/
mutual
def same : Nd → Nd → Bool
  | .mk op nm ar n _ l, .mk op' nm' ar' n' _ l' => decide (op = op') && (decide (nm = nm') && (decide (ar = ar') && (decide (n = n') && sames l l')))
def sames : List Nd → List Nd → Bool
  | [], [] => true
  | a :: r, b :: s => same a b && sames r s
  | _, _ => false
end
theorem sames_len : ∀ (l m : List Nd), l.length ≠ m.length → sames l m = false
  | [], [], h => by simp at h
  | [], _ :: _, _ => by simp [sames]
  | _ :: _, [], _ => by simp [sames]
  | a :: r, b :: s, h => by
    simp only [sames]
    rw [sames_len r s (by simpa using h), Bool.and_false]
theorem sames_no : ∀ (l m : List Nd) (j : Nat) (s t : Nd), l[j]? = some s → m[j]? = some t → same s t = false → sames l m = false
  | [], _, _, _, _, h, _, _ => by simp at h
  | _ :: _, [], _, _, _, _, h, _ => by simp at h
  | a :: r, b :: q, 0, s, t, h1, h2, h => by
    simp at h1 h2; subst h1; subst h2
    simp [sames, h]
  | a :: r, b :: q, j + 1, s, t, h1, h2, h => by
    simp only [sames]
    rw [sames_no r q j s t (by simpa using h1) (by simpa using h2) h, Bool.and_false]
theorem sames_yes : ∀ (l m : List Nd), l.length = m.length → (∀ (j : Nat) (s t : Nd), l[j]? = some s → m[j]? = some t → same s t = true) → sames l m = true
  | [], [], _, _ => rfl
  | [], _ :: _, h, _ => by simp at h
  | _ :: _, [], h, _ => by simp at h
  | a :: r, b :: q, hl, h => by
    simp only [sames]
    rw [h 0 a b rfl rfl, sames_yes r q (by simpa using hl) (fun j s t h1 h2 => h (j + 1) s t (by simpa using h1) (by simpa using h2)), Bool.and_self]

/-! ### Values -/
def valOps : List (List Int) := [oInt, oBool, oUnit, oNil, oStr, oVar, oFun]
mutual
def isVal : Nd → Bool
  | .mk op _ _ _ _ l => if op ∈ valOps then true else if op = oPair ∨ op = oCons then decide (l.length = 2) && isVals l else false
def isVals : List Nd → Bool | [] => true | t :: r => isVal t && isVals r
end
/-! ### Free names -/
/-- One text ahead of another, byte by byte. -/
def lt : List Int → List Int → Bool
  | _, [] => false
  | [], _ :: _ => true
  | a :: r, b :: s => decide (a < b) || (decide (a = b) && lt r s)
/-- The names that a node binds in its kid i. -/
def bindsL (op nm ar : List Int) (i : Nat) : List (List Int) :=
  if op = oFun ∨ (op = oLet ∧ i = 1) ∨ (op = oTry ∧ i = 1) ∨ (op = oRec ∧ i = 1) then [nm]
  else if (op = oRec ∧ i = 0) ∨ (op = oMatch ∧ i = 2) then [nm, ar] else []
/-- Where a text belongs among others that rise. -/
def place (x : List Int) : List (List Int) → Nat
  | [] => 0
  | y :: r => if lt y x then place x r + 1 else 0
def ins (x : List Int) (out : List (List Int)) : List (List Int) := out.take (place x out) ++ [x] ++ out.drop (place x out)
/-- The node's own name, put in if it is free. -/
def own (op nm : List Int) (bound out : List (List Int)) : List (List Int) := if op = oVar ∧ nm ∉ bound ∧ nm ∉ out then ins nm out else out
mutual
def freeR : Nd → List (List Int) → List (List Int) → List (List Int)
  | .mk op nm ar _ _ l, bound, out => freeRs op nm ar 0 l bound (own op nm bound out)
def freeRs (op nm ar : List Int) : Nat → List Nd → List (List Int) → List (List Int) → List (List Int)
  | _, [], _, out => out
  | i, t :: r, bound, out => freeRs op nm ar (i + 1) r bound (freeR t (bound ++ bindsL op nm ar i) out)
end
theorem place_le (x : List Int) : ∀ l, place x l ≤ l.length
  | [] => by simp [place]
  | y :: r => by unfold place; have := place_le x r; split <;> simp <;> omega
theorem place_all (x : List Int) : ∀ (l : List (List Int)) (j : Nat) (t : List Int), j < place x l → l[j]? = some t → lt t x = true
  | [], j, t, h, _ => by simp [place] at h
  | y :: r, j, t, h, ht => by
    unfold place at h
    split at h
    · rename_i hy
      cases j with
      | zero => simp at ht; subst ht; exact hy
      | succ j => exact place_all x r j t (by omega) (by simpa using ht)
    · omega
theorem place_stop (x : List Int) : ∀ (l : List (List Int)) (t : List Int), l[place x l]? = some t → lt t x = false
  | [], t, h => by simp at h
  | y :: r, t, h => by
    unfold place at h
    split at h
    · exact place_stop x r t (by simpa using h)
    · rename_i hy; simp at h; subst h; simpa using hy
theorem place_eq {x : List Int} {l : List (List Int)} {n : Nat} (hn : n ≤ l.length) (h1 : ∀ j t, j < n → l[j]? = some t → lt t x = true) (h2 : ∀ t, l[n]? = some t → lt t x = false) : place x l = n := by
  rcases Nat.lt_trichotomy (place x l) n with h | h | h
  · have hl : place x l < l.length := by omega
    have a := place_stop x l _ (List.getElem?_eq_getElem hl)
    rw [h1 _ _ h (List.getElem?_eq_getElem hl)] at a; cases a
  · exact h
  · have := place_le x l
    have hl : n < l.length := by omega
    have a := place_all x l n _ h (List.getElem?_eq_getElem hl)
    rw [h2 _ (List.getElem?_eq_getElem hl)] at a; cases a
theorem ins_len (x : List Int) (l : List (List Int)) : (ins x l).length = l.length + 1 := by
  have := place_le x l
  simp [ins]; omega
theorem own_len (op nm : List Int) (b o : List (List Int)) : (own op nm b o).length ≤ o.length + 1 := by
  unfold own; split
  · rw [ins_len]; exact Nat.le_refl _
  · omega
theorem freeR_len (T : Nd) : ∀ b o, (freeR T b o).length ≤ o.length + T.size := by
  induction T using Nd.ind with
  | h op nm ar n p l ih =>
    intro b o
    have key : ∀ (l : List Nd), (∀ t ∈ l, ∀ b o, (freeR t b o).length ≤ o.length + t.size) → ∀ i o, (freeRs op nm ar i l b o).length ≤ o.length + sizes l := by
      intro l
      induction l with
      | nil => intro _ i o; simp [freeRs, sizes]
      | cons t r ihr =>
        intro h i o
        simp only [freeRs, sizes]
        have h1 := ihr (fun t ht => h t (by simp [ht])) (i + 1) (freeR t (b ++ bindsL op nm ar i) o)
        have h2 := h t (by simp) (b ++ bindsL op nm ar i) o
        omega
    rw [freeR, Nd.size]
    have h1 := key l ih 0 (own op nm b o)
    have h2 := own_len op nm b o
    omega
theorem own_mem {op nm : List Int} {b o : List (List Int)} {P : List Int → Prop} (hn : P nm) (ho : ∀ t ∈ o, P t) : ∀ t ∈ own op nm b o, P t := by
  intro t ht
  unfold own at ht
  split at ht
  · simp only [ins, List.mem_append, List.mem_singleton] at ht
    rcases ht with (ht | rfl) | ht
    · exact ho t (List.mem_of_mem_take ht)
    · exact hn
    · exact ho t (List.mem_of_mem_drop ht)
  · exact ho t ht
theorem binds_mem {op nm ar : List Int} {i : Nat} {P : List Int → Prop} (hn : P nm) (ha : P ar) : ∀ t ∈ bindsL op nm ar i, P t := by
  intro t ht
  unfold bindsL at ht
  split at ht
  · simp at ht; subst ht; exact hn
  · split at ht
    · simp at ht; rcases ht with rfl | rfl
      · exact hn
      · exact ha
    · simp at ht
theorem binds_len (op nm ar : List Int) (i : Nat) : (bindsL op nm ar i).length ≤ 2 := by
  unfold bindsL; split
  · simp
  · split <;> simp
theorem bytesLess_lt : ∀ (L M : List Int), (∀ x ∈ L, 0 ≤ x ∧ x ≤ 255) → (∀ x ∈ M, 0 ≤ x ∧ x ≤ 255) → Op.bytesLess (Em.str L).toList (Em.str M).toList = lt L M := by
  intro L M hL hM
  have e : ∀ L : List Int, (Em.str L).toList = L.map fun n => UInt8.ofNat n.toNat := fun L => by
    unfold Em.str; exact ByteArray.toList_mk _
  rw [e, e]
  induction L generalizing M with
  | nil => cases M <;> rfl
  | cons a r ih =>
    cases M with
    | nil => rfl
    | cons b s =>
      have ha := hL a (by simp)
      have hb := hM b (by simp)
      simp only [List.map_cons, Op.bytesLess, lt]
      rw [ih s (fun x hx => hL x (by simp [hx])) (fun x hx => hM x (by simp [hx]))]
      have h1 : (UInt8.ofNat a.toNat).toNat = a.toNat := by simp; omega
      have h2 : (UInt8.ofNat b.toNat).toNat = b.toNat := by simp; omega
      have e1 : decide (UInt8.ofNat a.toNat < UInt8.ofNat b.toNat) = decide (a < b) := by
        rw [decide_eq_decide, UInt8.lt_iff_toNat_lt, h1, h2]; omega
      have e2 : (UInt8.ofNat a.toNat == UInt8.ofNat b.toNat) = decide (a = b) := by
        rw [Bool.eq_iff_iff, beq_iff_eq, decide_eq_true_iff, ← UInt8.toNat_inj, h1, h2]; omega
      rw [e1, e2]
theorem str_eq {L : List Int} (h : ∀ x ∈ L, 0 ≤ x ∧ x ≤ 255) (M : List UInt8) : ((Em.str L).toList == M) = decide (L = M.map fun c => (c.toNat : Int)) := by
  have h2 : Em.IsStr (ByteArray.mk M.toArray) (M.map fun c => (c.toNat : Int)) := by
    refine ⟨?_, ?_⟩
    · unfold Em.str
      congr 1
      rw [List.map_map]
      have : ((fun n : Int => UInt8.ofNat n.toNat) ∘ fun c : UInt8 => (c.toNat : Int)) = id := by funext c; simp
      rw [this]; simp
    · intro x hx
      simp only [List.mem_map] at hx
      obtain ⟨c, -, rfl⟩ := hx
      have := c.toNat_lt
      omega
  have h3 : (ByteArray.mk M.toArray).toList = M := ByteArray.toList_mk M
  have := (Em.isStr_str h).beq h2
  rw [← this, h3]
end Go.Em5

namespace Go.Em5
open Go.RowKit

/-- Is L one token of the kind k and the text T, with nothing around it? -/
def isTok (L : List Int) (k : Int) (T : List Int) : Bool :=
  if 2000 < L.length then false else match Em4.toks L with
    | .ok [t, _] => decide (t.kind = k) && decide (t.text = T)
    | _ => false

theorem tokAt_text {L : List Int} {k n : Int} {t : List Int} {m : Nat} (h : Em4.tokAt L = some (k, t, n, m)) : t.length ≤ L.length := by
  cases L with
  | nil => simp [Em4.tokAt] at h
  | cons c r =>
    simp only [Em4.tokAt] at h
    split at h
    · unfold Em4.nameAt at h
      simp only at h
      split at h
      · simp only [Option.some.injEq, Prod.mk.injEq] at h
        rw [← h.2.1]; simp only [List.length_take]; omega
      · split at h
        · cases h
        · simp only [Option.some.injEq, Prod.mk.injEq] at h
          rw [← h.2.1]; simp only [List.length_take]; omega
    · split at h
      · unfold Em4.numAt at h
        simp only at h
        split at h
        · cases h
        · simp only [Option.some.injEq, Prod.mk.injEq] at h
          rw [← h.2.1]; simp
      · split at h
        · unfold Em4.strAt at h
          simp only at h
          split at h
          · cases h
          · simp only [Option.some.injEq, Prod.mk.injEq] at h
            rw [← h.2.1]; simp only [List.length_take, List.length_drop]; omega
        · unfold Em4.sgnAt at h
          split at h
          · cases h
          · simp only [Option.some.injEq, Prod.mk.injEq] at h
            rw [← h.2.1]
            have := Em4.tokAt_le (L := c :: r) (k := 4) (n := 0) (t := Em4.sgn (c :: r)) (m := (Em4.sgn (c :: r)).length)
            have h2 := List.IsPrefix.length_le (List.isPrefixOf_iff_prefix.1 (Em4.sgn_pre (L := c :: r)))
            exact h2
theorem toksF_text : ∀ (f i : Nat) (L : List Int) (T : List Em4.Tok), Em4.toksF f i L = .ok T → ∀ t ∈ T, t.text.length ≤ L.length
  | f, i, [], T, h => by
    cases f <;> (simp only [Em4.toksF, Except.ok.injEq] at h; subst h; simp)
  | 0, i, c :: r, T, h => by
    simp only [Em4.toksF, Except.ok.injEq] at h; subst h; simp
  | f + 1, i, c :: r, T, h => by
    simp only [Em4.toksF] at h
    split at h
    · intro t ht
      have := toksF_text f (i + 1) r T h t ht
      simp only [List.length_cons]; omega
    · split at h
      · cases h
      · rename_i k tx n m hk
        split at h
        · cases h
        · rename_i l hl
          simp only [Except.ok.injEq] at h
          subst h
          intro t ht
          simp only [List.mem_cons] at ht
          rcases ht with rfl | ht
          · exact tokAt_text hk
          · have := toksF_text f (i + m) _ l hl t ht
            simp only [List.length_drop] at this
            omega
theorem ltr_blank {c : Int} (h : Em4.ltr c = true) : Em4.blank c = false := by
  simp only [Em4.ltr, Bool.and_eq_true, decide_eq_true_eq] at h
  simp only [Em4.blank, Bool.or_eq_false_iff, decide_eq_false_iff_not]
  omega
theorem toksF_nil (f i : Nat) : Em4.toksF f i [] = .ok [⟨5, [], 0, i⟩] := by cases f <;> rfl

theorem isTok_name (L : List Int) : isTok L 1 L = Em4.nameOk L := by
  rw [Bool.eq_iff_iff]
  constructor
  · intro h
    unfold isTok at h
    split at h
    · cases h
    · split at h
      · rename_i t u hT
        simp only [Bool.and_eq_true, decide_eq_true_eq] at h
        obtain ⟨hk, ht⟩ := h
        unfold Em4.toks at hT
        cases L with
        | nil => rw [toksF_nil] at hT; simp at hT
        | cons c r =>
          simp only [List.length_cons, Em4.toksF] at hT
          split at hT
          · have := toksF_text _ _ _ _ hT t (by simp)
            rw [ht] at this
            simp at this
            omega
          · split at hT
            · cases hT
            · rename_i k tx n m hm
              split at hT
              · cases hT
              · rename_i l hl
                simp only [Except.ok.injEq, List.cons.injEq] at hT
                obtain ⟨rfl, -⟩ := hT
                simp only at hk ht
                subst hk
                simp only [Em4.tokAt] at hm
                by_cases hc : Em4.ltr c = true
                · rw [if_pos hc] at hm
                  simp only [Em4.nameOk, hc, Bool.true_and]
                  rw [hm]
                  have hm' := hm
                  unfold Em4.nameAt at hm
                  simp only at hm
                  have hs := Em4.span_le Em4.nmc ((c :: r).drop 1)
                  simp only [List.length_drop] at hs
                  split at hm
                  · simp at hm
                  · split at hm
                    · cases hm
                    · simp only [Option.some.injEq, Prod.mk.injEq] at hm
                      obtain ⟨-, h2, -, h4⟩ := hm
                      rw [ht] at h2
                      have h5 := congrArg List.length h2
                      simp only [List.length_take] at h5
                      simp only [decide_true, Bool.true_and, decide_eq_true_eq]
                      simp only [List.length_cons] at hs h5 ⊢
                      omega
                · rw [if_neg hc] at hm
                  exfalso
                  split at hm
                  · unfold Em4.numAt at hm
                    simp only at hm
                    split at hm
                    · cases hm
                    · simp at hm
                  · split at hm
                    · unfold Em4.strAt at hm
                      simp only at hm
                      split at hm
                      · cases hm
                      · simp at hm
                    · unfold Em4.sgnAt at hm
                      split at hm
                      · cases hm
                      · simp at hm
      · cases h
  · intro h
    cases L with
    | nil => simp [Em4.nameOk] at h
    | cons c r =>
      simp only [Em4.nameOk, Bool.and_eq_true] at h
      obtain ⟨hc, h⟩ := h
      split at h
      · rename_i k tx n m hm
        simp only [Bool.and_eq_true, decide_eq_true_eq] at h
        obtain ⟨rfl, hml⟩ := h
        have hm' := hm
        unfold Em4.nameAt at hm
        simp only at hm
        split at hm
        · simp at hm
        · split at hm
          · cases hm
          · rename_i h12
            simp only [Option.some.injEq, Prod.mk.injEq, true_and] at hm
            obtain ⟨h2, h3, h4⟩ := hm
            have htx : tx = c :: r := by rw [← h2, h4, hml]; simp
            have hlen : (c :: r).length ≤ 12 := by omega
            have htk : Em4.toks (c :: r) = .ok [⟨1, c :: r, 0, 0⟩, ⟨5, [], 0, m⟩] := by
              unfold Em4.toks
              simp only [List.length_cons, Em4.toksF, ltr_blank hc]
              have : Em4.tokAt (c :: r) = some (1, tx, n, m) := by simp only [Em4.tokAt, hc, if_true]; exact hm'
              rw [this, htx, ← h3]
              simp only [hml, List.drop_length, toksF_nil]
              simp
            unfold isTok
            rw [if_neg (by omega), htk]
            simp
      · cases h

theorem span_pre {p : Int → Bool} : ∀ (L : List Int) (x : Int) (r : List Int), (∀ c ∈ L, p c = true) → p x = false → Em4.span p (L ++ x :: r) = L.length
  | [], x, r, _, hx => by simp [Em4.span, hx]
  | c :: L, x, r, h, hx => by
    simp only [List.cons_append, Em4.span, h c (by simp), if_true, List.length_cons]
    rw [span_pre L x r (fun c hc => h c (by simp [hc])) hx]
theorem isTok_text (L : List Int) : isTok (34 :: (L ++ [34])) 3 L = Em4.textOk L := by
  have hS : Em4.toks (34 :: (L ++ [34])) = match Em4.strAt (34 :: (L ++ [34])) with
      | none => .error 0
      | some (k, t, n, m) => match Em4.toksF (L.length + 1) (0 + m) ((34 :: (L ++ [34])).drop m) with
        | .error j => .error j
        | .ok l => .ok (⟨k, t, n, 0⟩ :: l) := by
    unfold Em4.toks
    have e : (34 :: (L ++ [34])).length = L.length + 1 + 1 := by simp
    rw [e]
    rfl
  rw [Bool.eq_iff_iff]
  constructor
  · intro h
    unfold isTok at h
    split at h
    · cases h
    · rw [hS] at h
      have hst : ∀ x, Em4.strAt (34 :: (L ++ [34])) = x → Em4.strAt (34 :: (L ++ [34])) = x := fun _ h => h
      cases hx : Em4.strAt (34 :: (L ++ [34])) with
      | none => rw [hx] at h; simp at h
      | some q =>
        obtain ⟨k, t, n, m⟩ := q
        rw [hx] at h
        simp only at h
        split at h
        · rename_i t1 u hT
          simp only [Bool.and_eq_true, decide_eq_true_eq] at h
          obtain ⟨hk, ht⟩ := h
          split at hT
          · cases hT
          · simp only [Except.ok.injEq, List.cons.injEq] at hT
            obtain ⟨rfl, -⟩ := hT
            simp only at hk ht
            subst ht
            unfold Em4.strAt at hx
            simp only [List.drop_succ_cons, List.drop_zero] at hx
            split at hx
            · cases hx
            · rename_i hno
              simp only [not_or, Bool.not_eq_false] at hno
              simp only [Option.some.injEq, Prod.mk.injEq] at hx
              rw [← hx.2.1]
              exact hno.2
        · cases h
  · intro h
    have hp : ∀ c ∈ L, Em4.prn c = true ∧ c ≠ 34 := by
      intro c hc
      simp only [Em4.textOk, Bool.and_eq_true, List.all_eq_true] at h
      have h1 := h.1 c hc
      refine ⟨h1, ?_⟩
      simp only [Em4.prn, Bool.and_eq_true, Bool.not_eq_true', decide_eq_false_iff_not] at h1
      exact h1.2.2
    have hl : L.length ≤ 40 := by
      simp only [Em4.textOk, Bool.and_eq_true, decide_eq_true_eq] at h
      exact h.2
    have hsp : Em4.span (fun c => !decide (c = 34)) (L ++ [34]) = L.length := span_pre L 34 [] (fun c hc => by simpa using (hp c hc).2) (by simp)
    have hst : Em4.strAt (34 :: (L ++ [34])) = some (3, L, 0, L.length + 2) := by
      unfold Em4.strAt
      simp only [List.drop_succ_cons, List.drop_zero, hsp]
      have e1 : (L ++ [34]).take L.length = L := by simp
      rw [e1, h]
      rw [if_neg (by simp)]
    unfold isTok
    rw [if_neg (by simp; omega), hS, hst]
    have e2 : (34 :: (L ++ [34])).drop (L.length + 2) = [] := by
      apply List.drop_eq_nil_of_le; simp
    simp only [e2, toksF_nil]
    simp

/-! ### What a node of an op has -/
def pName (op : List Int) : Int := if op = oVar ∨ op = oFun ∨ op = oLet ∨ op = oTry ∨ op = oRec ∨ op = oMatch then 1 else if op = oStr then 2 else 0
def pArg (op : List Int) : Int := if op = oRec ∨ op = oMatch then 1 else 0
def pMost (op : List Int) : Int := if op = oInt then 999999999999999999 else if op = oBool then 1 else 0
def pKids (op : List Int) : Int := if kidsN op = -1 then 0 else kidsN op
def pOk (op : List Int) : Bool := decide (kidsN op ≠ -1)
/-- Does a Name or an Arg hold what its kind may hold? -/
def hold (L : List Int) (k : Int) : Bool := if k = 1 then Em4.nameOk L else if k = 2 then Em4.textOk L else decide (L = [])
def partsOk (op nm ar : List Int) (n : Int) (len : Nat) : Bool := pOk op && (decide (0 ≤ n) && (decide (n ≤ pMost op) && (decide ((len : Int) = pKids op) && (hold nm (pName op) && hold ar (pArg op)))))
theorem nameA_hold (op nm : List Int) : nameA op nm = hold nm (pName op) := by
  unfold nameA hold pName
  by_cases h : op = oVar ∨ op = oFun ∨ op = oLet ∨ op = oTry ∨ op = oRec ∨ op = oMatch
  · simp [h]
  · rw [if_neg h, if_neg h]
    by_cases h2 : op = oStr
    · simp [h2]
    · simp [h2]
theorem nameB_hold (op ar : List Int) : nameB op ar = hold ar (pArg op) := by
  unfold nameB hold pArg
  by_cases h : op = oRec ∨ op = oMatch
  · simp [h]
  · simp [h]
theorem numOk_most (op : List Int) (n : Int) : numOk op n = (decide (0 ≤ n) && decide (n ≤ pMost op)) := by
  unfold numOk pMost
  by_cases h : op = oInt
  · simp [h]
  · rw [if_neg h, if_neg h]
    by_cases h2 : op = oBool
    · rw [if_pos h2, if_pos h2, Bool.eq_iff_iff]
      simp only [Bool.or_eq_true, Bool.and_eq_true, decide_eq_true_eq]
      omega
    · rw [if_neg h2, if_neg h2, Bool.eq_iff_iff]
      simp only [Bool.and_eq_true, decide_eq_true_eq]
      omega
theorem partsOk_eq (op nm ar : List Int) (n p : Int) (l : List Nd) : partsOk op nm ar n l.length = (decide (kidsN op = l.length) && namesOk (.mk op nm ar n p l)) := by
  unfold partsOk namesOk pOk pKids
  simp only [Nd.op, Nd.nm, Nd.ar, Nd.n]
  rw [nameA_hold, nameB_hold, numOk_most]
  by_cases h : kidsN op = -1
  · have h2 : ¬ kidsN op = (l.length : Int) := by omega
    simp only [h2, decide_false, Bool.false_and]
    simp [h]
  · have e : decide ((l.length : Int) = (if kidsN op = -1 then 0 else kidsN op)) = decide (kidsN op = (l.length : Int)) := by
      rw [if_neg h, decide_eq_decide]; omega
    rw [e, decide_eq_true h]
    cases decide (kidsN op = (l.length : Int)) <;> cases hold nm (pName op) <;> cases hold ar (pArg op) <;> cases decide (0 ≤ n) <;> cases decide (n ≤ pMost op) <;> rfl
end Go.Em5

namespace Go.Em5
open Go.RowKit

/-- The names that a node binds in its kid i, as the program has them. -/
def bindsT (op nm ar : List Int) (i : Nat) : List (List Int) :=
  if op = oFun then (if i = 0 then [nm] else [])
  else if op = oLet ∨ op = oTry then (if i = 1 then [nm] else [])
  else if op = oRec then (if i = 0 then [nm, ar] else if i = 1 then [nm] else [])
  else if op = oMatch then (if i = 2 then [nm, ar] else []) else []
mutual
/-- The free names, as they come. -/
def freeS : Nd → List (List Int) → List (List Int)
  | .mk op nm ar _ _ l, bound => (if op = oVar ∧ nm ∉ bound then [nm] else []) ++ freeSs op nm ar 0 l bound
def freeSs (op nm ar : List Int) : Nat → List Nd → List (List Int) → List (List Int)
  | _, [], _ => []
  | i, t :: r, bound => freeS t (bound ++ bindsT op nm ar i) ++ freeSs op nm ar (i + 1) r bound
end
theorem bindsT_mem {op nm ar : List Int} {i : Nat} {P : List Int → Prop} (hn : P nm) (ha : P ar) : ∀ t ∈ bindsT op nm ar i, P t := by
  intro t ht
  unfold bindsT at ht
  repeat' split at ht
  all_goals (simp at ht; try (rcases ht with rfl | rfl)); try (subst ht)
  all_goals first | exact hn | exact ha
theorem bindsT_len (op nm ar : List Int) (i : Nat) : (bindsT op nm ar i).length ≤ 2 := by
  unfold bindsT
  repeat' split
  all_goals simp
/-- Where the kids are as many as the op has, both bind alike. -/
theorem binds_eq {op nm ar : List Int} {i : Nat} (h : (i : Int) < kidsN op) : bindsT op nm ar i = bindsL op nm ar i := by
  unfold bindsT bindsL
  by_cases h1 : op = oFun
  · have : i = 0 := by
      have e : kidsN op = 1 := by rw [h1]; decide
      rw [e] at h; omega
    simp [this, h1]
  · rw [if_neg h1]
    by_cases h2 : op = oLet
    · subst h2
      by_cases hi : i = 1
      · simp [hi]
      · simp [hi, oLet, oRec, oMatch, oTry, oFun]
    · by_cases h3 : op = oTry
      · subst h3
        by_cases hi : i = 1
        · simp [hi]
        · simp [hi, oLet, oRec, oMatch, oTry, oFun]
      · rw [if_neg (by rintro (e | e); exact h2 e; exact h3 e)]
        by_cases h4 : op = oRec
        · subst h4
          by_cases hi : i = 1
          · simp [hi]
          · have h5 : ¬ oRec = oMatch := by decide
            simp [hi, h1, h2, h3, h5]
        · rw [if_neg h4]
          by_cases h5 : op = oMatch
          · subst h5
            simp [h1, h2, h3, h4]
          · simp [h1, h2, h3, h4, h5]
theorem freeSs_take (op nm ar : List Int) (bound : List (List Int)) : ∀ (l : List Nd) (i j : Nat) (t : Nd), l[j]? = some t → freeSs op nm ar i (l.take (j + 1)) bound = freeSs op nm ar i (l.take j) bound ++ freeS t (bound ++ bindsT op nm ar (i + j))
  | [], _, _, _, h => by simp at h
  | x :: r, i, 0, t, h => by
    simp at h; subst h
    simp [freeSs]
  | x :: r, i, j + 1, t, h => by
    simp only [List.take_succ_cons, freeSs]
    rw [freeSs_take op nm ar bound r (i + 1) j t (by simpa using h), List.append_assoc, show i + 1 + j = i + (j + 1) by omega]
end Go.Em5

namespace Go.Em5
open Go.RowKit

/-! ### The order of texts -/
theorem lt_irrefl : ∀ a : List Int, lt a a = false
  | [] => rfl
  | a :: r => by simp [lt, lt_irrefl r]
theorem lt_trans : ∀ {a b c : List Int}, lt a b = true → lt b c = true → lt a c = true
  | _, [], _, h, _ => by simp [lt] at h
  | _, _ :: _, [], _, h => by simp [lt] at h
  | [], _ :: _, _ :: _, _, _ => rfl
  | a :: r, b :: s, c :: t, h, k => by
    simp only [lt, Bool.or_eq_true, Bool.and_eq_true, decide_eq_true_eq] at h k ⊢
    rcases h with h | ⟨h, h'⟩ <;> rcases k with k | ⟨k, k'⟩
    · left; omega
    · left; omega
    · left; omega
    · right; exact ⟨by omega, lt_trans h' k'⟩
theorem lt_total : ∀ (a b : List Int), lt a b = false → a ≠ b → lt b a = true
  | [], [], _, h => absurd rfl h
  | [], _ :: _, h, _ => by simp [lt] at h
  | _ :: _, [], _, _ => rfl
  | a :: r, b :: s, h, hn => by
    simp only [lt, Bool.or_eq_false_iff, Bool.and_eq_false_iff, decide_eq_false_iff_not] at h
    simp only [lt, Bool.or_eq_true, Bool.and_eq_true, decide_eq_true_eq]
    by_cases e : a = b
    · right
      refine ⟨e.symm, lt_total r s ?_ (fun e' => hn (by rw [e, e']))⟩
      rcases h.2 with h2 | h2
      · exact absurd e h2
      · exact h2
    · left; omega
theorem lt_bytes : ∀ (x y : List UInt8), lt (x.map fun c => (c.toNat : Int)) (y.map fun c => (c.toNat : Int)) = decide (x < y)
  | [], [] => rfl
  | [], b :: s => by simp [lt]
  | a :: r, [] => by simp [lt]
  | a :: r, b :: s => by
    simp only [List.map_cons, lt]
    rw [lt_bytes r s, Bool.eq_iff_iff]
    simp only [Bool.or_eq_true, Bool.and_eq_true, decide_eq_true_eq, List.cons_lt_cons_iff]
    have e1 : ((a.toNat : Int) < (b.toNat : Int)) ↔ a < b := by rw [UInt8.lt_iff_toNat_lt]; omega
    have e2 : ((a.toNat : Int) = (b.toNat : Int)) ↔ a = b := by rw [← UInt8.toNat_inj]; omega
    rw [e1, e2]

/-- Texts that rise. -/
def Rise (l : List (List Int)) : Prop := l.Pairwise (fun a b => lt a b = true)
theorem rise_ext : ∀ (l m : List (List Int)), Rise l → Rise m → (∀ x, x ∈ l ↔ x ∈ m) → l = m
  | [], [], _, _, _ => rfl
  | [], y :: m, _, _, h => by have := (h y).2 (by simp); simp at this
  | x :: l, [], _, _, h => by have := (h x).1 (by simp); simp at this
  | x :: l, y :: m, hl, hm, h => by
    have hl' := List.pairwise_cons.1 hl
    have hm' := List.pairwise_cons.1 hm
    have e : x = y := by
      have h1 := (h x).1 (by simp)
      have h2 := (h y).2 (by simp)
      simp only [List.mem_cons] at h1 h2
      rcases h1 with e | h1
      · exact e
      · rcases h2 with e | h2
        · exact e.symm
        · have := lt_trans (hm'.1 x h1) (hl'.1 y h2)
          rw [lt_irrefl] at this; cases this
    subst e
    rw [rise_ext l m hl'.2 hm'.2 (fun z => ?_)]
    have hz := h z
    simp only [List.mem_cons] at hz
    constructor
    · intro h1
      rcases hz.1 (.inr h1) with e | h2
      · subst e
        have := hl'.1 z h1
        rw [lt_irrefl] at this; cases this
      · exact h2
    · intro h1
      rcases hz.2 (.inr h1) with e | h2
      · subst e
        have := hm'.1 z h1
        rw [lt_irrefl] at this; cases this
      · exact h2
theorem mem_ins (x t : List Int) (out : List (List Int)) : t ∈ ins x out ↔ t = x ∨ t ∈ out := by
  unfold ins
  have e : t ∈ out ↔ t ∈ out.take (place x out) ∨ t ∈ out.drop (place x out) := by
    rw [← List.mem_append, List.take_append_drop]
  rw [e]
  simp only [List.mem_append, List.mem_singleton]
  constructor
  · rintro ((h | h) | h)
    · exact .inr (.inl h)
    · exact .inl h
    · exact .inr (.inr h)
  · rintro (h | h | h)
    · exact .inl (.inr h)
    · exact .inl (.inl h)
    · exact .inr h
theorem rise_ins {x : List Int} {out : List (List Int)} (h : Rise out) (hx : x ∉ out) : Rise (ins x out) := by
  have hsplit := List.take_append_drop (place x out) out
  have h' : Rise (out.take (place x out) ++ out.drop (place x out)) := by rw [hsplit]; exact h
  have hp := List.pairwise_append.1 h'
  have ht : ∀ a ∈ out.take (place x out), lt a x = true := by
    intro a ha
    obtain ⟨j, hj, e⟩ := List.getElem_of_mem ha
    have hj2 : j < place x out := by simp at hj; omega
    refine place_all x out j a hj2 ?_
    rw [List.getElem_take] at e
    rw [List.getElem?_eq_getElem (by simp at hj; omega), e]
  have hd : ∀ a ∈ out.drop (place x out), lt x a = true := by
    intro a ha
    obtain ⟨j, hj, e⟩ := List.getElem_of_mem ha
    simp only [List.length_drop] at hj
    have hfirst : lt out[place x out] x = false := place_stop x out _ (List.getElem?_eq_getElem (by omega))
    have hne : out[place x out] ≠ x := fun e => hx (e ▸ List.getElem_mem (by omega))
    have hlt := lt_total _ _ hfirst hne
    cases j with
    | zero =>
      simp only [List.getElem_drop, Nat.add_zero] at e
      rw [← e]; exact hlt
    | succ j =>
      simp only [List.getElem_drop] at e
      refine lt_trans hlt ?_
      rw [← e]
      exact (List.pairwise_iff_getElem.1 h) (place x out) (place x out + (j + 1)) (by omega) (by omega) (by omega)
  unfold ins Rise
  rw [List.append_assoc]
  refine List.pairwise_append.2 ⟨hp.1, ?_, ?_⟩
  · refine List.pairwise_append.2 ⟨by simp, hp.2.1, ?_⟩
    intro a ha b hb
    simp at ha; subst ha
    exact hd b hb
  · intro a ha b hb
    simp only [List.mem_append, List.mem_singleton] at hb
    rcases hb with rfl | hb
    · exact ht a ha
    · exact hp.2.2 a ha b hb
theorem own_rise {op nm : List Int} {b o : List (List Int)} (h : Rise o) : Rise (own op nm b o) ∧ ∀ x, x ∈ own op nm b o ↔ x ∈ o ∨ x ∈ (if op = oVar ∧ nm ∉ b then [nm] else []) := by
  unfold own
  by_cases h1 : op = oVar ∧ nm ∉ b
  · by_cases h2 : nm ∈ o
    · rw [if_neg (fun e => e.2.2 h2), if_pos h1]
      refine ⟨h, fun x => ⟨.inl, fun e => e.elim id (fun e => by simp at e; subst e; exact h2)⟩⟩
    · rw [if_pos ⟨h1.1, h1.2, h2⟩, if_pos h1]
      refine ⟨rise_ins h h2, fun x => ?_⟩
      rw [mem_ins]
      simp only [List.mem_singleton]
      exact Or.comm
  · rw [if_neg (fun e => h1 ⟨e.1, e.2.1⟩), if_neg h1]
    exact ⟨h, fun x => by simp⟩

theorem free_rise (T : Nd) : each T = true → ∀ b o, Rise o → Rise (freeR T b o) ∧ ∀ x, x ∈ freeR T b o ↔ x ∈ o ∨ x ∈ freeS T b := by
  induction T using Nd.ind with
  | h op nm ar n p l ih =>
    intro he b o ho
    rw [each] at he
    simp only [Bool.and_eq_true, decide_eq_true_eq] at he
    obtain ⟨hk, -, hes⟩ := he
    have key : ∀ (r : List Nd) (i : Nat), (∀ t ∈ r, t ∈ l) → i + r.length = l.length → ∀ o, Rise o → Rise (freeRs op nm ar i r b o) ∧ ∀ x, x ∈ freeRs op nm ar i r b o ↔ x ∈ o ∨ x ∈ freeSs op nm ar i r b := by
      intro r
      induction r with
      | nil => intro i _ _ o ho; simp only [freeRs, freeSs]; exact ⟨ho, fun x => by simp⟩
      | cons t r ihr =>
        intro i hm hi o ho
        simp only [freeRs, freeSs]
        have heq : bindsT op nm ar i = bindsL op nm ar i := binds_eq (by rw [hk]; simp at hi; omega)
        rw [heq]
        obtain ⟨h1, h2⟩ := ih t (hm t (by simp)) ((eachs_iff l).1 hes t (hm t (by simp))) (b ++ bindsL op nm ar i) o ho
        obtain ⟨h3, h4⟩ := ihr (i + 1) (fun t ht => hm t (by simp [ht])) (by simp at hi; omega) _ h1
        refine ⟨h3, fun x => ?_⟩
        rw [h4, h2, List.mem_append, or_assoc]
    rw [freeR, freeS]
    obtain ⟨h1, h2⟩ := own_rise (op := op) (nm := nm) (b := b) ho
    obtain ⟨h3, h4⟩ := key l 0 (fun t ht => ht) (by omega) _ h1
    refine ⟨h3, fun x => ?_⟩
    rw [h4, h2, List.mem_append, or_assoc]

/-- Different byte strings, sorted, are the document's free names, if they are those that were found. -/
theorem free_sorted {T : Nd} (he : each T = true) {ss : List (List UInt8)} (hnd : ss.Nodup) (hm : ∀ u : List UInt8, u ∈ ss ↔ (u.map fun c => (c.toNat : Int)) ∈ freeS T []) (hb : ∀ x ∈ freeS T [], ∃ u : List UInt8, x = u.map fun c => (c.toNat : Int)) :
    (ss.mergeSort (fun x y => decide (x ≤ y))).map (fun u => u.map fun c => (c.toNat : Int)) = freeR T [] [] := by
  obtain ⟨h1, h2⟩ := free_rise T he [] [] List.Pairwise.nil
  refine rise_ext _ _ ?_ h1 (fun x => ?_)
  · have hp := List.pairwise_mergeSort (le := fun x y : List UInt8 => decide (x ≤ y)) (fun a b c h k => decide_eq_true (List.le_trans (of_decide_eq_true h) (of_decide_eq_true k))) (fun a b => by simpa using List.le_total a b) ss
    have hn2 : (ss.mergeSort (fun x y => decide (x ≤ y))).Nodup := (List.mergeSort_perm ss _).symm.nodup hnd
    unfold Rise
    rw [List.pairwise_map]
    refine (hp.and hn2).imp ?_
    rintro a b ⟨h, hne⟩
    rw [lt_bytes]
    refine decide_eq_true ?_
    by_cases hab : a < b
    · exact hab
    · exact absurd (List.le_antisymm (of_decide_eq_true h) (List.not_lt.1 hab)) hne
  · rw [h2]
    simp only [List.not_mem_nil, false_or, List.mem_map, List.mem_mergeSort]
    constructor
    · rintro ⟨u, hu, rfl⟩
      exact (hm u).1 hu
    · intro hx
      obtain ⟨u, rfl⟩ := hb x hx
      exact ⟨u, (hm u).2 hx, rfl⟩
end Go.Em5

/- A slice of bytes in memory, as a list of numbers: what contracts ask of an argument and say of a result. -/
import Derived.WalkKit
import Derived.WalkSpells
import Derived.WalkLawsBesides
namespace Go.Em
open Go.RowKit

/-- In the world w the value u is a slice that holds the bytes L. -/
def IsBytes (w : World) (u : Value) (L : List Int) : Prop :=
  ∃ a cap, u = .slice a L.length cap ∧ L.length ≤ cap ∧ cap ≤ maxLen ∧ (a = none → cap = 0) ∧ (∀ x ∈ L, 0 ≤ x ∧ x ≤ 255) ∧
    ∀ j, j < L.length → ∃ ad, a = some ad ∧ w.cell? (ad.add j) = some (.int .u8 (L.getD j 0))

theorem IsBytes.nil (w : World) : IsBytes w (.slice none 0 0) [] :=
  ⟨none, 0, rfl, by simp, by simp [maxLen], fun _ => rfl, by simp, by simp⟩

theorem IsBytes.len {w : World} {u : Value} {L : List Int} (h : IsBytes w u L) : L.length ≤ 9223372036854775807 := by
  obtain ⟨a, cap, -, h1, h2, -⟩ := h; unfold maxLen at h2; omega

theorem IsBytes.bd {w : World} {u : Value} {L : List Int} (h : IsBytes w u L) : ∀ x ∈ L, 0 ≤ x ∧ x ≤ 255 := by
  obtain ⟨a, cap, -, -, -, -, h, -⟩ := h; exact h

theorem getD_bd {L : List Int} (h : ∀ x ∈ L, 0 ≤ x ∧ x ≤ 255) (j : Nat) : 0 ≤ L[j]?.getD 0 ∧ L[j]?.getD 0 ≤ 255 := by
  cases hj : L[j]? with
  | none => simp
  | some x => exact h x (List.mem_of_getElem? hj)

/-- Where there is a byte the slice's address is plain. -/
theorem IsBytes.plain {w : World} {u : Value} {L : List Int} (h : IsBytes w u L) (hp : 0 < L.length) :
    ∃ b off cap, u = .slice (some ⟨b, off, none⟩) L.length cap ∧ L.length ≤ cap ∧ cap ≤ maxLen ∧ ∀ j, j < L.length → w.cell? ⟨b, off + j, none⟩ = some (.int .u8 (L.getD j 0)) := by
  obtain ⟨a, cap, rfl, h1, h2, -, -, hc⟩ := h
  obtain ⟨ad, rfl, hc0⟩ := hc 0 hp
  obtain ⟨b, off, spot⟩ := ad
  have hspot : spot = none := by simpa [Addr.add] using World.cell?_spot hc0
  subst hspot
  refine ⟨b, off, cap, rfl, h1, h2, fun j hj => ?_⟩
  obtain ⟨ad, had, hcj⟩ := hc j hj
  cases had
  rw [← hcj]
  unfold Addr.add
  split
  · rename_i h0; subst h0; rfl
  · rfl

/-- No byte. -/
theorem IsBytes.empty {w : World} {u : Value} {L : List Int} (h : IsBytes w u L) (hp : L.length = 0) :
    ∃ a cap, u = .slice a 0 cap ∧ cap ≤ maxLen ∧ (a = none → cap = 0) := by
  obtain ⟨a, cap, rfl, h1, h2, h3, -⟩ := h
  exact ⟨a, cap, by rw [hp], h2, h3⟩

/-- What an 'ownsRow' of bytes is. -/
theorem IsBytes.own {w : World} {base : Nat} {e : TypeId} {u : Value} {L : List Int} (hb : ∀ x ∈ L, 0 ≤ x ∧ x ≤ 255)
    (h : w.ownsRow base e 1 u L.length (L.map (Value.int .u8))) : IsBytes w u L := by
  have h' := h
  obtain ⟨_, h2⟩ := h
  rcases h2 with ⟨rfl, h2⟩ | ⟨g, cap, cur, rfl, hg, hh, h3, h4, h5, h6⟩
  · have : L = [] := List.length_eq_zero_iff.1 h2
    subst this
    exact IsBytes.nil w
  · refine ⟨some ⟨g, 0, none⟩, cap, rfl, h3, h4, (fun h => by cases h), hb, fun j hj => ⟨_, rfl, ?_⟩⟩
    have := h'.cells (g := g) rfl j (.int .u8 (L.getD j 0)) (by simp [hj])
    exact this

/-- A slice that reads lies in blocks that are there. -/
theorem cell_lt {w : World} {p : Addr} {v : Value} (h : w.cell? p = some v) : p.block < w.heap.size := by
  unfold World.cell? at h
  by_cases hlt : p.block < w.heap.size
  · exact hlt
  · have : w.heap[p.block]? = none := Array.getElem?_eq_none (by omega)
    simp [this] at h

/-- Old bytes are as they were behind a call that only makes memory. -/
theorem IsBytes.below {w w' : World} {u : Value} {L : List Int} (h : IsBytes w u L) (hb : Below w.heap.size w w') : IsBytes w' u L := by
  obtain ⟨a, cap, rfl, h1, h2, h3, h4, hc⟩ := h
  refine ⟨a, cap, rfl, h1, h2, h3, h4, fun j hj => ?_⟩
  obtain ⟨ad, rfl, hcj⟩ := hc j hj
  exact ⟨ad, rfl, by rw [hb.cell (cell_lt hcj)]; exact hcj⟩

/-- The cells, as a law on append asks for them. -/
theorem IsBytes.news {w : World} {ad : Addr} {n c : Nat} {L : List Int} (h : IsBytes w (.slice (some ad) n c) L) :
    ∀ j u, (L.map (Value.int .u8))[j]? = some u → w.cell? (ad.add j) = some u := by
  obtain ⟨a, cap, e, -, -, -, -, hc⟩ := h
  injection e with e1 e2 e3
  subst e1
  intro j u hj
  have hj' : j < L.length := by
    have := (List.getElem?_eq_some_iff.1 hj).1
    simpa using this
  obtain ⟨ad', had, hcj⟩ := hc j hj'
  cases had
  rw [hcj]
  simp [List.getElem?_eq_getElem hj'] at hj
  simp [hj', hj]
theorem oneCells (L : List Int) : ∀ u ∈ L.map (Value.int .u8), u.oneCell' = true := by
  intro u hu
  simp only [List.mem_map] at hu
  obtain ⟨x, -, rfl⟩ := hu
  rfl
/-- Bytes that a call owns, where there are any: their slice. -/
theorem own_shape {w : World} {B : Nat} {e : TypeId} {u : Value} {L : List Int} (h : w.ownsRow B e 1 u L.length (L.map (Value.int .u8))) (hL : 1 ≤ L.length) :
    ∃ g c, u = .slice (some ⟨g, 0, none⟩) L.length c ∧ B ≤ g ∧ g < w.heap.size := by
  have h' := h
  obtain ⟨_, h2⟩ := h
  rcases h2 with ⟨-, h2⟩ | ⟨g, cap, cur, rfl, hg, -⟩
  · omega
  · exact ⟨g, cap, rfl, hg, (h'.lt g rfl).2⟩

/-- The first m bytes. -/
theorem IsBytes.take {w : World} {a : Option Addr} {n c : Nat} {L : List Int} (h : IsBytes w (.slice a n c) L) (m : Nat) (hm : m ≤ n) : IsBytes w (.slice a m c) (L.take m) := by
  obtain ⟨a', cap, e, h1, h2, h3, h4, hc⟩ := h
  injection e with e1 e2 e3
  subst e1; subst e3
  have el : (L.take m).length = m := by simp; omega
  refine ⟨a, c, by rw [el], by rw [el]; omega, h2, h3, fun x hx => h4 x (List.mem_of_mem_take hx), fun j hj => ?_⟩
  rw [el] at hj
  obtain ⟨ad, had, hcj⟩ := hc j (by omega)
  exact ⟨ad, had, by rw [hcj]; simp [hj]⟩

/-- A part of the bytes: 's[l:h]'. -/
theorem IsBytes.sliced {w : World} {a : Option Addr} {n c : Nat} {L : List Int} (h : IsBytes w (.slice a n c) L) (l m : Nat) (h1 : l ≤ m) (h2 : m ≤ n) : IsBytes w (sliced a l m c 1) ((L.drop l).take (m - l)) := by
  obtain ⟨a', cap, e, k1, k2, k3, k4, hc⟩ := h
  injection e with e1 e2 e3
  subst e1; subst e3
  have el : ((L.drop l).take (m - l)).length = m - l := by simp; omega
  refine ⟨if c = l then a else a.map (·.add (l * 1)), c - l, by rw [el]; rfl, by rw [el]; omega, by omega, ?_, fun x hx => k4 x (List.mem_of_mem_drop (List.mem_of_mem_take hx)), fun j hj => ?_⟩
  · intro hn
    split at hn
    · omega
    · cases a with
      | none => have := k3 rfl; omega
      | some ad => simp at hn
  · rw [el] at hj
    obtain ⟨ad, rfl, hcj⟩ := hc (l + j) (by omega)
    rw [if_neg (by omega)]
    refine ⟨ad.add (l * 1), rfl, ?_⟩
    have e2 : (ad.add (l * 1)).add j = ad.add (l + j) := by
      unfold Addr.add
      by_cases hl : l = 0
      · subst hl; simp
      · by_cases hj0 : j = 0
        · subst hj0; simp [hl]
        · simp [hl, hj0]; omega
    rw [e2, hcj]
    simp [hj, List.getElem?_drop]
/-! ### Bytes as a string -/
def str (L : List Int) : ByteArray := ⟨(L.map fun n => UInt8.ofNat n.toNat).toArray⟩

theorem foldl_push : ∀ (L : List Int) (r : ByteArray), L.foldl (fun r n => r.push (UInt8.ofNat n.toNat)) r = ⟨r.data ++ (L.map fun n => UInt8.ofNat n.toNat).toArray⟩
  | [], r => by simp
  | b :: l, r => by
    simp only [List.foldl_cons]
    rw [foldl_push l]
    simp [ByteArray.push]

/-- 'string(b)'. -/
theorem run_str {P : Program} (src dst e : TypeId) (hs : P.underlying src = some (.slice e)) (he : P.underlying e = some (.int .u8)) (hd : P.underlying dst = some .string)
    {w : World} {u : Value} {L : List Int} (h : IsBytes w u L) : (convert src dst u).run P w = .ok (.string (str L)) w := by
  obtain ⟨a, cap, rfl, -, -, h3, -, hc⟩ := h
  rw [run_convert_bytes_string w src dst e a L.length cap hs he hd]
  cases a with
  | none =>
    have : L = [] := by
      cases L with
      | nil => rfl
      | cons c r => obtain ⟨ad, had, -⟩ := hc 0 (by simp); cases had
    subst this
    have := h3 rfl
    subst this
    rfl
  | some a =>
    have hl := run_loadCells_list (P := P) w a (L.map (Value.int .u8)) (fun j v hj => by
      have hj' : j < L.length := by
        have := (List.getElem?_eq_some_iff.1 hj).1
        simpa using this
      obtain ⟨ad, had, hcj⟩ := hc j hj'
      cases had
      rw [hcj]
      simp [List.getElem?_eq_getElem hj'] at hj
      simp [hj', hj])
    simp only [List.length_map] at hl
    rw [run_bytesToString w a L.length cap L hl, foldl_push]
    have he0 : ByteArray.empty.data = #[] := rfl
    rw [he0]
    simp [str]

theorem toList_inj {a b : ByteArray} (h : a.toList = b.toList) : a = b := by
  rw [ByteArray.toList_eq, ByteArray.toList_eq] at h
  cases a; cases b
  simp at h
  simp [h]

theorem str_inj {L M : List Int} (hL : ∀ x ∈ L, 0 ≤ x ∧ x ≤ 255) (hM : ∀ x ∈ M, 0 ≤ x ∧ x ≤ 255) (h : str L = str M) : L = M := by
  have h1 : L.map (fun n => UInt8.ofNat n.toNat) = M.map (fun n => UInt8.ofNat n.toNat) := by
    have := congrArg (fun b : ByteArray => b.data.toList) h
    simpa [str] using this
  clear h
  induction L generalizing M with
  | nil => cases M with
    | nil => rfl
    | cons _ _ => simp at h1
  | cons a L ih => cases M with
    | nil => simp at h1
    | cons b M =>
      simp only [List.map_cons, List.cons.injEq] at h1
      have ha := hL a (by simp)
      have hb := hM b (by simp)
      have e := congrArg UInt8.toNat h1.1
      simp at e
      have : a = b := by omega
      rw [this, ih (fun x hx => hL x (by simp [hx])) (fun x hx => hM x (by simp [hx])) h1.2]
end Go.Em

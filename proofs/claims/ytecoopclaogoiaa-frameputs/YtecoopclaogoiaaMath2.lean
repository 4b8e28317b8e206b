/- The plain mathematics of chapter 2 (sum): Adler's sum and the mark of a list of bytes. No program is named here. -/
import Derived.WalkKit
import Derived.Laws.BitsAllLaws
namespace Go.Em2
open Go.RowKit

/-! ### Adler -/
def adl : Int → Int → List Int → Int × Int
  | a, b, [] => (a, b)
  | a, b, c :: r => adl ((a + c) % 65521) ((b + (a + c) % 65521) % 65521) r
def adler (L : List Int) : Int := (adl 1 0 L).2 * 65536 + (adl 1 0 L).1

theorem adl_cons (a b c : Int) (r : List Int) : adl a b (c :: r) = adl ((a + c) % 65521) ((b + (a + c) % 65521) % 65521) r := rfl
theorem adl_app (L M : List Int) : ∀ a b, adl a b (L ++ M) = adl (adl a b L).1 (adl a b L).2 M := by
  induction L with
  | nil => intro a b; rfl
  | cons c r ih => intro a b; simp only [List.cons_append, adl_cons]; exact ih _ _
theorem adl_bd (L : List Int) : ∀ a b, 0 ≤ a → a < 65521 → 0 ≤ b → b < 65521 → 0 ≤ (adl a b L).1 ∧ (adl a b L).1 < 65521 ∧ 0 ≤ (adl a b L).2 ∧ (adl a b L).2 < 65521 := by
  induction L with
  | nil => intro a b h1 h2 h3 h4; exact ⟨h1, h2, h3, h4⟩
  | cons c r ih => intro a b h1 h2 h3 h4; rw [adl_cons]; exact ih _ _ (by omega) (by omega) (by omega) (by omega)
theorem adler_bd (L : List Int) : 0 ≤ adler L ∧ adler L ≤ 4293984240 := by
  have := adl_bd L 1 0 (by omega) (by omega) (by omega) (by omega)
  unfold adler; omega
/-- a alone: it is what it was at first, and all bytes, modulo 65521. -/
theorem adl_fst (L : List Int) : ∀ a b, 0 ≤ a → a < 65521 → (adl a b L).1 = (a + L.sum) % 65521 := by
  induction L with
  | nil => intro a b h1 h2; simp [adl]; omega
  | cons c r ih =>
    intro a b h1 h2
    rw [adl_cons, ih _ _ (by omega) (by omega)]
    simp only [List.sum_cons]
    omega
theorem adler_mod (L : List Int) : adler L % 65536 = (1 + L.sum) % 65521 := by
  have h := adl_bd L 1 0 (by omega) (by omega) (by omega) (by omega)
  have e := adl_fst L 1 0 (by omega) (by omega)
  unfold adler; omega
theorem sum_set (L : List Int) : ∀ (k : Nat) (c : Int), k < L.length → (L.set k c).sum = L.sum - L[k]?.getD 0 + c := by
  induction L with
  | nil => intro k c h; simp at h
  | cons x r ih =>
    intro k c h
    cases k with
    | zero => simp; omega
    | succ k => simp only [List.set_cons_succ, List.sum_cons, List.getElem?_cons_succ]; have := ih k c (by simpa using h); omega
/-- One byte turned turns Adler's sum. -/
theorem adler_turn {L : List Int} {k : Nat} {c : Int} (hk : k < L.length) (hL : ∀ x ∈ L, 0 ≤ x ∧ x ≤ 255) (h1 : 0 ≤ c) (h2 : c ≤ 255) (hne : c ≠ L[k]?.getD 0) : adler (L.set k c) ≠ adler L := by
  intro h
  have a := adler_mod (L.set k c)
  have b := adler_mod L
  rw [h, b, sum_set L k c hk] at a
  have hx := hL (L[k]) (List.getElem_mem hk)
  rw [List.getElem?_eq_getElem hk] at a hne
  simp only [Option.getD_some] at a hne
  omega

/-! ### Mark -/
def mst (h c : Int) : Int := IntKind.u64.wrap (bits .xor .u64 h c * 1099511628211)
def mrk : Int → List Int → Int
  | h, [] => h
  | h, c :: r => mrk (mst h c) r
def mark (L : List Int) : Int := mrk 14695981039346656037 L
theorem mrk_cons (h c : Int) (r : List Int) : mrk h (c :: r) = mrk (mst h c) r := rfl
theorem mrk_app (L M : List Int) : ∀ h, mrk h (L ++ M) = mrk (mrk h L) M := by
  induction L with
  | nil => intro a; rfl
  | cons c r ih => intro a; simp only [List.cons_append, mrk_cons]; exact ih _
theorem mst_bd (h c : Int) : 0 ≤ mst h c ∧ mst h c ≤ 18446744073709551615 := by
  unfold mst; rw [IntKind.wrap_u64]; omega
theorem mrk_bd (L : List Int) : ∀ h, 0 ≤ h → h ≤ 18446744073709551615 → 0 ≤ mrk h L ∧ mrk h L ≤ 18446744073709551615 := by
  induction L with
  | nil => intro h h1 h2; exact ⟨h1, h2⟩
  | cons c r ih => intro h _ _; rw [mrk_cons]; exact ih _ (mst_bd h c).1 (mst_bd h c).2
theorem mark_bd (L : List Int) : 0 ≤ mark L ∧ mark L ≤ 18446744073709551615 := mrk_bd L _ (by omega) (by omega)

/-- The factor has an inverse. -/
theorem times_inj {a b : Int} (ha : 0 ≤ a) (ha2 : a < 18446744073709551616) (hb : 0 ≤ b) (hb2 : b < 18446744073709551616)
    (h : a * 1099511628211 % 18446744073709551616 = b * 1099511628211 % 18446744073709551616) : a = b := by
  have e : ∀ x : Int, 0 ≤ x → x < 18446744073709551616 → (x * 1099511628211 % 18446744073709551616) * 14886173955864302971 % 18446744073709551616 = x := by
    intro x h1 h2
    rw [Int.mul_emod (x * 1099511628211 % 18446744073709551616), Int.emod_emod, ← Int.mul_emod, Int.mul_assoc]
    have : (1099511628211 * 14886173955864302971 : Int) = 18446744073709551616 * 887285111055 + 1 := by decide
    rw [this, Int.mul_add, Int.mul_one]
    rw [show x * (18446744073709551616 * 887285111055) = 18446744073709551616 * (x * 887285111055) by rw [Int.mul_left_comm], Int.mul_add_emod_self_left]
    omega
  have := e a ha ha2
  rw [h, e b hb hb2] at this
  exact this.symm

theorem times_nat {x y : Nat} (hx : x < 18446744073709551616) (hy : y < 18446744073709551616) (h : (x : Int) * 1099511628211 % 18446744073709551616 = (y : Int) * 1099511628211 % 18446744073709551616) : x = y :=
  Int.ofNat_inj.1 (times_inj (Int.natCast_nonneg x) (by clear h; omega) (Int.natCast_nonneg y) (by clear h; omega) h)
theorem xor_bd {h c : Int} (h1 : 0 ≤ h) (h2 : h ≤ 18446744073709551615) (c1 : 0 ≤ c) (c2 : c ≤ 18446744073709551615) : bits .xor .u64 h c = ((h.toNat ^^^ c.toNat : Nat) : Int) ∧ h.toNat ^^^ c.toNat < 18446744073709551616 :=
  ⟨u64_xor _ _ h1 (by omega) c1 (by omega), by have := Nat.xor_lt_two_pow (n := 64) (x := h.toNat) (y := c.toNat) (by omega) (by omega); omega⟩
theorem mst_inj {h h' c c' : Int} (h1 : 0 ≤ h) (h2 : h ≤ 18446744073709551615) (k1 : 0 ≤ h') (k2 : h' ≤ 18446744073709551615) (c1 : 0 ≤ c) (c2 : c ≤ 255) (d1 : 0 ≤ c') (d2 : c' ≤ 255)
    (e : mst h c = mst h' c') : h.toNat ^^^ c.toNat = h'.toNat ^^^ c'.toNat := by
  have c3 : c ≤ 18446744073709551615 := by omega
  have d3 : c' ≤ 18446744073709551615 := by omega
  obtain ⟨e1, l1⟩ := xor_bd h1 h2 c1 c3
  obtain ⟨e2, l2⟩ := xor_bd k1 k2 d1 d3
  unfold mst at e
  rw [IntKind.wrap_u64, IntKind.wrap_u64, e1, e2] at e
  exact times_nat l1 l2 e
theorem nat_xor_right {a b c : Nat} (h : a ^^^ c = b ^^^ c) : a = b := by
  have := congrArg (· ^^^ c) h
  simpa [Nat.xor_assoc] using this
theorem nat_xor_left {a b c : Nat} (h : c ^^^ a = c ^^^ b) : a = b := nat_xor_right (c := c) (by rw [Nat.xor_comm a, Nat.xor_comm b]; exact h)
theorem mrk_inj (L : List Int) (hL : ∀ x ∈ L, 0 ≤ x ∧ x ≤ 255) : ∀ h h', 0 ≤ h → h ≤ 18446744073709551615 → 0 ≤ h' → h' ≤ 18446744073709551615 → mrk h L = mrk h' L → h = h' := by
  induction L with
  | nil => intro h h' _ _ _ _ e; exact e
  | cons c r ih =>
    intro h h' h1 h2 k1 k2 e
    have hc := hL c (by simp)
    have := ih (fun x hx => hL x (by simp [hx])) _ _ (mst_bd h c).1 (mst_bd h c).2 (mst_bd h' c).1 (mst_bd h' c).2 e
    have := nat_xor_right (mst_inj h1 h2 k1 k2 hc.1 hc.2 hc.1 hc.2 this)
    omega
/-- One byte turned turns the mark. -/
theorem mark_turn {L : List Int} {k : Nat} {c : Int} (hk : k < L.length) (hL : ∀ x ∈ L, 0 ≤ x ∧ x ≤ 255) (h1 : 0 ≤ c) (h2 : c ≤ 255) (hne : c ≠ L[k]?.getD 0) : mark (L.set k c) ≠ mark L := by
  intro h
  have hd : L = L.take k ++ L[k] :: L.drop (k + 1) := by rw [List.getElem_cons_drop, List.take_append_drop]
  have hs : L.set k c = L.take k ++ c :: L.drop (k + 1) := by rw [List.set_eq_take_append_cons_drop, if_pos hk]
  have e : mrk 14695981039346656037 (L.take k ++ c :: L.drop (k + 1)) = mrk 14695981039346656037 (L.take k ++ L[k] :: L.drop (k + 1)) := by rw [← hs, ← hd]; exact h
  rw [mrk_app, mrk_app, mrk_cons, mrk_cons] at e
  have hx := hL (L[k]) (List.getElem_mem hk)
  have hh := mrk_bd (L.take k) 14695981039346656037 (by omega) (by omega)
  have e2 := mrk_inj (L.drop (k + 1)) (fun x hx => hL x (List.mem_of_mem_drop hx)) _ _ (mst_bd _ _).1 (mst_bd _ _).2 (mst_bd _ _).1 (mst_bd _ _).2 e
  have e3 := nat_xor_left (mst_inj hh.1 hh.2 hh.1 hh.2 h1 h2 hx.1 hx.2 e2)
  rw [List.getElem?_eq_getElem hk] at hne
  simp only [Option.getD_some] at hne
  omega
theorem mark_next (L : List Int) (c : Int) : mark (L ++ [c]) = mst (mark L) c := by
  unfold mark; rw [mrk_app]; rfl
theorem adler_next (L : List Int) (c : Int) : adler (L ++ [c]) = ((adler L / 65536 + (adler L % 65536 + c) % 65521) % 65521) * 65536 + (adler L % 65536 + c) % 65521 := by
  have h := adl_bd L 1 0 (by omega) (by omega) (by omega) (by omega)
  have e1 : adler L / 65536 = (adl 1 0 L).2 := by unfold adler; omega
  have e2 : adler L % 65536 = (adl 1 0 L).1 := by unfold adler; omega
  rw [e1, e2]
  unfold adler
  rw [adl_app]
  rfl

theorem drop_step {L : List Int} {k : Nat} (h : k < L.length) : L.drop k = L[k]?.getD 0 :: L.drop (k + 1) := by
  rw [List.getElem?_eq_getElem h]; simp
theorem rows_step {R : List (List Int)} {k : Nat} (h : k < R.length) : (R.drop k).flatten = R[k]?.getD [] ++ (R.drop (k + 1)).flatten := by
  rw [List.getElem?_eq_getElem h, Option.getD_some, List.drop_eq_getElem_cons h, List.flatten_cons]
end Go.Em2

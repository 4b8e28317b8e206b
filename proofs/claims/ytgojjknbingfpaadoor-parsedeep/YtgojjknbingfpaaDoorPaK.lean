/- What 'kid', 'name' of the program's parser answer. -/
import Derived.Test.YtgojjknbingfpaaDoorPaI
import Derived.Test.YtgojjknbingfpaaDoorNdApp
import Derived.Test.YtgojjknbingfpaaDoorRPaL
import Derived.Deep.RegionLaw
namespace Go.Em6
open Go.RowKit Go.Em5
theorem Six.under {w w' : World} {g B : Nat} {v0 v1 v2 v3 v4 v5 : Value} (h : Six w g v0 v1 v2 v3 v4 v5) (hb : Below B w w') (hg : g < B) : Six w' g v0 v1 v2 v3 v4 v5 := by
  have c : ∀ o, w'.cell? ⟨g, o, none⟩ = w.cell? ⟨g, o, none⟩ := fun o => World.cell?_of_block (a := ⟨g, o, none⟩) (hb.block g hg)
  have f : ∀ o, w'.frozen? ⟨g, o, none⟩ = w.frozen? ⟨g, o, none⟩ := fun o => World.frozen?_of_block (a := ⟨g, o, none⟩) (hb.block g hg)
  exact ⟨by rw [c]; exact h.c0, by rw [c]; exact h.c1, by rw [c]; exact h.c2, by rw [c]; exact h.c3, by rw [c]; exact h.c4, by rw [c]; exact h.c5, by rw [f]; exact h.f0, by rw [f]; exact h.f1, by rw [f]; exact h.f2, by rw [f]; exact h.f3, by rw [f]; exact h.f4, by rw [f]; exact h.f5⟩
theorem addr0 (r k : Nat) : (⟨r, 0, none⟩ : Addr).add k = ⟨r, k, none⟩ := by
  unfold Addr.add
  split
  · rename_i h0; subst h0; rfl
  · simp
theorem six_news {w : World} {g : Nat} {v0 v1 v2 v3 v4 v5 : Value} (h : Six w g v0 v1 v2 v3 v4 v5) : ∀ j u, ([v0, v1, v2, v3, v4, v5] : List Value)[j]? = some u → w.cell? ((⟨g, 0, none⟩ : Addr).add j) = some u := by
  intro j u hj
  rw [addr0]
  match j, hj with
  | 0, hj => simp at hj; subst hj; exact h.c0
  | 1, hj => simp at hj; subst hj; exact h.c1
  | 2, hj => simp at hj; subst hj; exact h.c2
  | 3, hj => simp at hj; subst hj; exact h.c3
  | 4, hj => simp at hj; subst hj; exact h.c4
  | 5, hj => simp at hj; subst hj; exact h.c5
  | j + 6, hj => simp at hj
theorem row_old {P : Nat → Prop} {e : TypeId} {w : World} {B : Nat} {v : Value} {l : List Nd} (h : OwnNds P e w B v l) {b : Nat} (hb : w.heap.size ≤ b) : some b ≠ v.ownBlock := by
  obtain ⟨cs, -, hown, -⟩ := h
  intro hv
  have := (World.ownsRow.lt hown b hv.symm).2
  omega
theorem kid_after {pb g : Nat} {w X w3 : World} {e : TypeId} {n3 : Nd} {v3 : Value} {u0 u1 u2 u3 u4 u5 v : Value} {l : List Nd} (b3 : Bes pb X w3) (d3 : NdB X.heap.size w3 n3 v3) (hX : Below w.heap.size w X) (hs : Six w g u0 u1 u2 u3 u4 u5) (ho : OwnNds (fun b => g + 1 ≤ b) e w (g + 1) v l) (hpg : pb < g) (hgl : g < w.heap.size) :
    Six w3 g u0 u1 u2 u3 u4 u5 ∧ OwnNds (fun b => g + 1 ≤ b) e w3 (g + 1) v l ∧ IsNdP (fun b => g + 1 ≤ b ∧ some b ≠ v.ownBlock) w3 n3 v3 ∧ Bes pb w w3 ∧ w.heap.size ≤ w3.heap.size := by
  have hb : Bes pb w w3 := (Bes.of hX).trans b3
  refine ⟨hs.bes hb (by omega), ho.keep hb.size (fun b hb' hl => hb.block b hl (by rcases hb' with h | h <;> omega)), ?_, hb, hb.size⟩
  refine isNdP_keep (Nat.le_refl _) (fun b h1 _ => ⟨rfl, ?_, ?_⟩) _ _ d3
  · have h1 : X.heap.size ≤ b := h1
    have := hX.size
    omega
  · have h1 : X.heap.size ≤ b := h1
    have := hX.size
    exact row_old ho (by omega)
theorem nameS_txt {w : World} {pb tb d : Nat} {s : St} (h : IsPr w pb tb d s) : Txt (nameS s).1 := by
  cases s with
  | error e => exact txt_nil
  | ok L => cases L with
    | nil => exact txt_nil
    | cons t r =>
      simp only [nameS]
      split
      · exact h.now.1
      · exact txt_nil
/-- A name that is nothing is an error. -/
theorem nameS_nil {w : World} {pb tb d : Nat} {s : St} (h : IsPr w pb tb d s) (hn : (nameS s).1 = []) : ∃ e, (nameS s).2 = .error e := by
  cases s with
  | error e => exact ⟨e, rfl⟩
  | ok L => cases L with
    | nil => exact ⟨_, rfl⟩
    | cons t r =>
      by_cases h1 : t.kind = 1
      · simp only [nameS, if_pos h1] at hn
        exact absurd hn (h.kok.2 h1)
      · exact ⟨(2, t.pos), by simp only [nameS, if_neg h1]⟩
theorem lim_name {d : Nat} {s : St} (h : Lim d s) : Lim d (nameS s).2 := by
  cases s with
  | error e => exact h
  | ok L => exact lim_of _ h
end Go.Em6
namespace Go.Proofs.YtgojjknbingfpaaDoor
open Go.RowKit Go.Em5 Go.Em6
set_option linter.unusedSimpArgs false

set_option maxRecDepth 100000 in
set_option maxHeartbeats 4000000 in
theorem qkid_any (d : Nat) (E : List Em4.Tok → R) (hI : DoesP 55 d E) (w : World) (pb tb g : Nat) (s : St) (h : IsPs w pb tb d s) (hpg : pb < g) (htg : tb < g) (op nm ar : List Int) (p : Nat) (l : List Nd) (hl : l.length ≤ 10) (hv : KV 24 w g op nm ar p l) :
    Calls Tryd.prog 32 #[PP pb, PP g] w fun e w' => e = .returned (.tuple #[]) ∧ ∃ n s', IsPs w' pb tb d s' ∧ KV 24 w' g op nm ar p (l ++ [n]) ∧ BesB g pb w w' ∧ Fits (thn s E) n s' := by
  have HH : Hid (IsPs w pb tb d s) := h
  have HE : Hid (DoesP 55 d E) := hI
  have hgl := hv.lt
  obtain ⟨a, cap, hs, ho⟩ := hv
  have hlp := h.lt.1
  have hsd := hs.drew
  have hs0 : Hid (Six w g _ _ _ _ _ _) := hs
  have HOW : Hid (OwnNds (fun b => g + 1 ≤ b) 24 w (g + 1) (.slice a l.length cap) l) := ho
  have hod : OwnNds (fun b => g + 1 ≤ b) 24 w.drew (g + 1) (.slice a l.length cap) l := ho.keep (Nat.le_refl _) (fun _ _ _ => rfl)
  have HOD : Hid (OwnNds (fun b => g + 1 ≤ b) 24 w.drew (g + 1) (.slice a l.length cap) l) := hod
  obtain ⟨-, -, -, -, -, k5, -⟩ := id hsd
  have hlen : l.length ≤ 1000000 := by omega
  clear h hI ho hs hod
  go_enter Tryd.func32, Tryd.ntmps32
  go_wp2_with fail
  have z6 := (Six.made w (.string ⟨#[]⟩) (.string ⟨#[]⟩) (.string ⟨#[]⟩) (.int .i64 0) (.int .i64 0) (.slice none 0 0) 24).drew
  have hse := (hs0.out.alloc (.cells #[.string ⟨#[]⟩, .string ⟨#[]⟩, .string ⟨#[]⟩, .int .i64 0, .int .i64 0, .slice none 0 0] 24)).drew
  have HHE : Hid (IsPs (w.alloc (.cells #[.string ⟨#[]⟩, .string ⟨#[]⟩, .string ⟨#[]⟩, .int .i64 0, .int .i64 0, .slice none 0 0] 24)).drew pb tb d s) := (HH.out.alloc (.cells #[.string ⟨#[]⟩, .string ⟨#[]⟩, .string ⟨#[]⟩, .int .i64 0, .int .i64 0, .slice none 0 0] 24)).drew
  have HOE : Hid (OwnNds (fun b => g + 1 ≤ b) 24 (w.alloc (.cells #[.string ⟨#[]⟩, .string ⟨#[]⟩, .string ⟨#[]⟩, .int .i64 0, .int .i64 0, .slice none 0 0] 24)).drew (g + 1) (.slice a l.length cap) l) := HOW.out.keep (by simp) (fun b _ hl => ((Below.refl w.heap.size w).alloc (Nat.le_refl _) _).block b hl)
  obtain ⟨-, -, -, -, -, k5e, -⟩ := id hse
  have hgp : g ≠ pb := by omega
  have fix : ∀ (r k : Nat), (⟨r, 0, none⟩ : Addr).add k = ⟨r, k, none⟩ := addr0
  have hli : (0 : Int) ≤ (l.length : Int) := by omega
  have hlj : (l.length : Int) < (l.length : Int) + 1 := by omega
  go_region_law (first
    | (refine step_app0 (P := fun b => g + 1 ≤ b) (w := w3.alloc (.cells #[.string ⟨#[]⟩, .string ⟨#[]⟩, .string ⟨#[]⟩, .int .i64 0, .int .i64 0, .slice none 0 0] 24)) (by rfl) _ _ (by rfl) (g + 1) _ l (by rfl) ho3a.out ⟨w3.heap.size, 0, none⟩ hn3a.out (by rfl) hlen hB3a ?_; intro r4 cap4 w4 A4; have hb4 : Below (g + 1) w3 w4 := ((Below.refl _ _).alloc hB3 _).trans A4.bel; have HFIN : Hid (∀ W, W.heap.size = w4.heap.size → W.heap[r4]? = _ → (∀ b, b ≠ r4 → (g + 1 ≤ b ∨ g + 1 ≤ b) → W.heap[b]? = w4.heap[b]?) → OwnNds (fun b => g + 1 ≤ b) 24 W (g + 1) (.slice (some ⟨r4, 0, none⟩) (l.length + 1) cap4) (l ++ [n3])) := fun W h1 h2 h3 => A4.fin W n3 _ _ _ _ _ _ el3a.out h1 h2 h3; have hs4 : Six w4 g _ _ _ _ _ _ := hs3.under hb4 (by omega); obtain ⟨-, -, -, -, -, c5, -, -, -, -, -, f5⟩ := id hs4; obtain ⟨-, lt4, -, le4, mx4, d0, d1, d2, d3, d4, d5, fr4, -⟩ := id A4; have fr0 := fr4 (l.length * 6); have fr1 := fr4 (l.length * 6 + 1); have fr2 := fr4 (l.length * 6 + 2); have fr3 := fr4 (l.length * 6 + 3); have fr4' := fr4 (l.length * 6 + 4); have fr5 := fr4 (l.length * 6 + 5); have hrg : g < r4 := A4.base; have hgr : ¬ g = r4 := (by omega); have hrg' : ¬ r4 = g := (by omega); have hl4 := hs4.lt; have hcp : (l.length + 1 : Int) ≤ 9223372036854775807 := (by omega); obtain ⟨W, hW1, hW2, sx, hz, hWr, hWb, hWo, hWt, hWp⟩ := kid_world (g := g) (r := r4) (by omega) (l.length * 6) hs4 (.slice (some ⟨r4, 0, none⟩) (l.length + 1) cap4) (.string y0) (.string y1) (.string y2) (.int .i64 ym) (.int .i64 yp) (.slice ya yl yc); have HBW : Hid (Below (g + 1) w3 w4) := hb4; clear A4 fr4 hb4)
    | (refine step_app0 (P := fun b => g + 1 ≤ b) (w := w3) (by rfl) _ _ (by rfl) (g + 1) _ l (by rfl) ho3.out ⟨w.heap.size, 0, none⟩ hn3.out (by rfl) hlen hB3 ?_; intro r4 cap4 w4 A4; have hb4 : Below (g + 1) w3 w4 := A4.bel; have HFIN : Hid (∀ W, W.heap.size = w4.heap.size → W.heap[r4]? = _ → (∀ b, b ≠ r4 → (g + 1 ≤ b ∨ g + 1 ≤ b) → W.heap[b]? = w4.heap[b]?) → OwnNds (fun b => g + 1 ≤ b) 24 W (g + 1) (.slice (some ⟨r4, 0, none⟩) (l.length + 1) cap4) (l ++ [n3])) := fun W h1 h2 h3 => A4.fin W n3 _ _ _ _ _ _ el3.out h1 h2 h3; have hs4 : Six w4 g _ _ _ _ _ _ := hs3.under hb4 (by omega); obtain ⟨-, -, -, -, -, c5, -, -, -, -, -, f5⟩ := id hs4; obtain ⟨-, lt4, -, le4, mx4, d0, d1, d2, d3, d4, d5, fr4, -⟩ := id A4; have fr0 := fr4 (l.length * 6); have fr1 := fr4 (l.length * 6 + 1); have fr2 := fr4 (l.length * 6 + 2); have fr3 := fr4 (l.length * 6 + 3); have fr4' := fr4 (l.length * 6 + 4); have fr5 := fr4 (l.length * 6 + 5); have hrg : g < r4 := A4.base; have hgr : ¬ g = r4 := (by omega); have hrg' : ¬ r4 = g := (by omega); have hl4 := hs4.lt; have hcp : (l.length + 1 : Int) ≤ 9223372036854775807 := (by omega); obtain ⟨W, hW1, hW2, sx, hz, hWr, hWb, hWo, hWt, hWp⟩ := kid_world (g := g) (r := r4) (by omega) (l.length * 6) hs4 (.slice (some ⟨r4, 0, none⟩) (l.length + 1) cap4) (.string y0) (.string y1) (.string y2) (.int .i64 ym) (.int .i64 yp) (.slice ya yl yc); have HBW : Hid (Below (g + 1) w3 w4) := hb4; clear A4 fr4 hb4)
    | (go_simp; go_at_call 55; refine (HE.out s _ pb tb (by with_reducible first | exact HH.out.drew | exact HHE.out)).mono ?_; rintro e w3 ⟨v3, n3, s3, rfl, d3, h3, b3, F3⟩; obtain ⟨y0, y1, y2, ym, yp, ya, yl, yc, rfl⟩ := ndb_shape d3; obtain ⟨hs3, ho3', el3', HB3', hz3⟩ := kid_after b3 d3 (by with_reducible first | exact (Below.refl _ _).drew | exact ((Below.refl _ _).alloc (Nat.le_refl _) _).drew) hs0.out HOW.out hpg hgl; (first | (have z63 := z6.bes b3 (by omega); have hn3 : Hid (∀ j u, ([.string ⟨#[]⟩, .string ⟨#[]⟩, .string ⟨#[]⟩, .int .i64 0, .int .i64 0, .slice none 0 0] : List Value)[j]? = some u → w3.cell? ((⟨w.heap.size, 0, none⟩ : Addr).add j) = some u) := six_news z63) | skip); have hl3 := hs3.lt; have hB3 : g + 1 ≤ w3.heap.size := (by omega); have hB3a : g + 1 ≤ (w3.alloc (.cells #[.string ⟨#[]⟩, .string ⟨#[]⟩, .string ⟨#[]⟩, .int .i64 0, .int .i64 0, .slice none 0 0] 24)).heap.size := (by simp; omega); obtain ⟨-, -, -, -, -, k53, -⟩ := id hs3; have ho3 : Hid (OwnNds (fun b => g + 1 ≤ b) 24 w3 (g + 1) (.slice a l.length cap) l) := ho3'; have el3 : Hid (IsNdP (fun b => g + 1 ≤ b ∧ some b ≠ (Value.slice a l.length cap).ownBlock) w3 n3 (.agg #[.string y0, .string y1, .string y2, .int .i64 ym, .int .i64 yp, .slice ya yl yc])) := el3'; have ho3a : Hid (OwnNds (fun b => g + 1 ≤ b) 24 (w3.alloc (.cells #[.string ⟨#[]⟩, .string ⟨#[]⟩, .string ⟨#[]⟩, .int .i64 0, .int .i64 0, .slice none 0 0] 24)) (g + 1) (.slice a l.length cap) l) := ho3'.keep (by simp) (fun b _ hl => ((Below.refl w3.heap.size w3).alloc (Nat.le_refl _) _).block b hl); have el3a : Hid (IsNdP (fun b => g + 1 ≤ b ∧ some b ≠ (Value.slice a l.length cap).ownBlock) (w3.alloc (.cells #[.string ⟨#[]⟩, .string ⟨#[]⟩, .string ⟨#[]⟩, .int .i64 0, .int .i64 0, .slice none 0 0] 24)) n3 (.agg #[.string y0, .string y1, .string y2, .int .i64 ym, .int .i64 yp, .slice ya yl yc])) := ndp_below el3' ((Below.refl _ _).alloc (Nat.le_refl _) _); have hn3a : Hid (∀ j u, ([.string ⟨#[]⟩, .string ⟨#[]⟩, .string ⟨#[]⟩, .int .i64 0, .int .i64 0, .slice none 0 0] : List Value)[j]? = some u → (w3.alloc (.cells #[.string ⟨#[]⟩, .string ⟨#[]⟩, .string ⟨#[]⟩, .int .i64 0, .int .i64 0, .slice none 0 0] 24)).cell? ((⟨w3.heap.size, 0, none⟩ : Addr).add j) = some u) := cells_six w3 _ rfl _ _ _ _ _ _; have HF3 : Hid (Fits (thn s E) n3 s3) := F3; have HB3 : Hid (Bes pb w w3) := HB3'; clear F3 d3 b3 ho3' el3' HB3'))
  all_goals
    go_wp2
    (try simp only [Exit.inBlock, Exit.then])
    refine bodyPost_end (results_none rfl _ _ _) rfl ?_
    have hb4 := HBW.out
    have hlt3 := h3.lt
    have h4 : IsPs w4 pb tb d s3 := h3.keep hb4.size (hb4.block pb (by omega)) (hb4.block tb (by omega))
    have hB := HB3.out
    refine ⟨rfl, n3, s3, h4.keep (by omega) (hWb _ (by omega) (by omega)) (hWb _ (by omega) (by omega)), ⟨_, cap4, by rw [List.length_append]; exact sx, by rw [List.length_append]; exact HFIN.out W hz hWr (fun b h1 h2 => hWb b h1 (by rcases h2 with h | h <;> omega))⟩, ⟨by rw [hWo, hb4.os, hB.os], by rw [hWt, hb4.tape, hB.tape], by rw [hWp, hb4.output, hB.output], by have e1 := hb4.size; have e2 := hB.size; omega, fun k hkg hkp => by rw [hWb k (by omega) (by omega), hb4.block k (by omega), hB.block k (by omega) hkp]⟩, HF3.out⟩
end Go.Proofs.YtgojjknbingfpaaDoor

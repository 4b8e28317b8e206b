/- What 'two' of the program's parser answers. -/
import Derived.Test.YtgojjknbingfpaaDoorPaB
namespace Go.Proofs.YtgojjknbingfpaaDoor
open Go.RowKit Go.Em5 Go.Em6
set_option linter.unusedSimpArgs false

set_option maxRecDepth 100000 in
set_option maxHeartbeats 2000000 in
theorem qtwo_any (K d : Nat) (F : List Em4.Tok → R) (t : Em4.Tok) (r : List Em4.Tok) (hF : DoesAt K d F (.ok r)) (hn : Enters K) (w : World) (pb tb : Nat) (h : IsPs w pb tb d (.ok (t :: r))) (hk : t.kind ≠ 5) (op : List Int) (ho : Txt op) (P : Nat → Prop) (hP : ∀ b, w.heap.size ≤ b → P b) (hpP : ¬ P pb) (nL : Nd) (vL : Value) (hL : IsNdP P w nL vL) :
    Calls Tryd.prog 58 #[PP pb, .string (Em.str op), vL, MV K pb] w fun e w' => ∃ v n2 s', e = .returned v ∧ IsNdP P w' (nd op t.pos [nL, n2]) v ∧ IsPs w' pb tb d s' ∧ Bes pb w w' ∧ Fits (thn (.ok r) F) n2 s' := by
  have HH : Hid (IsPs w pb tb d (.ok (t :: r))) := h
  have HF : Hid (DoesAt K d F (.ok r)) := hF
  have HN : Hid (Enters K) := hn
  have HK : Hid (t.kind ≠ 5) := hk
  have HO : Hid (Txt op) := ho
  have HPP : Hid (∀ b, w.heap.size ≤ b → P b) := hP
  have hpos := h.1.now.2.2.1
  have hpos : t.pos ≤ 140737488351232 := hpos
  obtain ⟨hlp, hlt, hnb, -⟩ := h.lt
  obtain ⟨x0, x1, x2, xm, xp, xa, xl, xc, rfl⟩ := isNdP_shape hL
  have f3 := fld3 t.kind (Em.str t.text) t.num t.pos
  clear h hF hn hk ho hP
  have z5 := (Six.made w (.string x0) (.string x1) (.string x2) (.int .i64 xm) (.int .i64 xp) (.slice xa xl xc) 24).alloc (.cells #[.string ⟨#[]⟩, .string ⟨#[]⟩, .string ⟨#[]⟩, .int .i64 0, .int .i64 0, .slice none 0 0] 24)
  have z4 := Six.made (w.alloc (.cells #[.string x0, .string x1, .string x2, .int .i64 xm, .int .i64 xp, .slice xa xl xc] 24)) (.string ⟨#[]⟩) (.string ⟨#[]⟩) (.string ⟨#[]⟩) (.int .i64 0) (.int .i64 0) (.slice none 0 0) 24
  simp only [World.size_alloc] at z4
  have h0 := (HH.out.alloc (.cells #[.string x0, .string x1, .string x2, .int .i64 xm, .int .i64 xp, .slice xa xl xc] 24)).alloc (.cells #[.string ⟨#[]⟩, .string ⟨#[]⟩, .string ⟨#[]⟩, .int .i64 0, .int .i64 0, .slice none 0 0] 24)
  have bs0 := ((Bes.refl pb w).alloc (.cells #[.string x0, .string x1, .string x2, .int .i64 xm, .int .i64 xp, .slice xa xl xc] 24)).alloc (.cells #[.string ⟨#[]⟩, .string ⟨#[]⟩, .string ⟨#[]⟩, .int .i64 0, .int .i64 0, .slice none 0 0] 24)
  have e0 : IsNdP (fun b => P b ∧ b ≠ w.heap.size + 1) ((w.alloc (.cells #[.string x0, .string x1, .string x2, .int .i64 xm, .int .i64 xp, .slice xa xl xc] 24)).alloc (.cells #[.string ⟨#[]⟩, .string ⟨#[]⟩, .string ⟨#[]⟩, .int .i64 0, .int .i64 0, .slice none 0 0] 24)) nL _ := ndp_below (ndp_below (isNdP_keep (Nat.le_refl _) (fun b h1 h2 => ⟨rfl, h1, by omega⟩) _ _ hL) ((Below.refl _ _).alloc (Nat.le_refl _) _)) ((Below.refl _ _).alloc (Nat.le_refl _) _)
  clear hL
  go_enter Tryd.func58, Tryd.ntmps58
  go_wp2_with fail
  refine (qnext_any pb tb d t r _ h0 HK.out).mono ?_
  rintro e w1 ⟨rfl, h1, b1⟩
  simp only [Em6.tokV]
  have p4 := z4.bes b1 (by omega)
  have p5 := z5.bes b1 (by omega)
  have bs1 := bs0.trans b1
  have e1 := ndp_bes e0 (fun h => hpP h.1) b1
  have g4 := p4.lt
  clear z4 z5 h0 bs0 e0 b1
  have r5d := p5.drew
  go_wp2_with fail
  go_region_held (fun w' => w'.cell? ⟨w.heap.size, 0, none⟩ = some (.string x0) ∧ w'.cell? ⟨w.heap.size, 1, none⟩ = some (.string x1) ∧ w'.cell? ⟨w.heap.size, 2, none⟩ = some (.string x2) ∧ w'.cell? ⟨w.heap.size, 3, none⟩ = some (.int .i64 xm) ∧ w'.cell? ⟨w.heap.size, 4, none⟩ = some (.int .i64 xp) ∧ w'.cell? ⟨w.heap.size, 5, none⟩ = some (.slice xa xl xc))
    (with_reducible (first | exact (u6.alloc _).held | exact u6.held | exact (t5.alloc _).held | exact t5.held | exact r5d.held))
    (first | (rw [HN.out, Oper.upon_enter]; refine (HF.out _ pb tb h1.drew).mono ?_; rintro e w8 ⟨v8, n8, s8, rfl, d8, h8, b8, F8⟩; obtain ⟨y0, y1, y2, ym, yp, ya, yl, yc, rfl⟩ := ndb_shape d8; have t4 := p4.drew.bes b8 (by omega); have t5 := r5d.bes b8 (by omega); have bs8 := bs1.drew.trans b8; have e8 : IsNdP (fun b => P b ∧ b ≠ w.heap.size + 1) w8 nL _ := ndp_bes (ndp_below e1 (Below.refl _ _).drew) (fun h => hpP h.1) b8; have e8' : IsNdP (fun b => P b ∧ b ≠ w.heap.size + 1) w8 n8 _ := isNdP_keep (Nat.le_refl _) (fun b h1 _ => ⟨rfl, HPP.out b (by have : w1.heap.size ≤ b := h1; omega), by have : w1.heap.size ≤ b := h1; omega⟩) _ _ d8; have HF8 : Hid (Fits (thn (.ok r) F) n8 s8) := F8; have g8 := t4.lt; obtain ⟨W, hW, sx, hz, hk, hbb⟩ := t4.set (.string (Em.str op)) (.string ⟨#[]⟩) (.string ⟨#[]⟩) (.int .i64 0) (.int .i64 t.pos) (.slice (some ⟨w8.heap.size, 0, none⟩) 2 2); have u6 : Six W w.heap.size _ _ _ _ _ _ := t5.far hk (by omega); obtain ⟨a0, a1, a2, a3, a4, a5, f0, f1, f2, f3', f4, f5⟩ := id t4; clear F8 d8 b8 r5d))
  all_goals
    go_wp2
    obtain ⟨c0, c1, c2, c3, c4, c5, -⟩ := sx.alloc (.cells #[.string x0, .string x1, .string x2, .int .i64 xm, .int .i64 xp, .slice xa xl xc, .string y0, .string y1, .string y2, .int .i64 ym, .int .i64 yp, .slice ya yl yc] 24)
    refine bodyPost_ret (v := .agg #[.string (Em.str op), .string ⟨#[]⟩, .string ⟨#[]⟩, .int .i64 0, .int .i64 t.pos, .slice (some ⟨w8.heap.size, 0, none⟩) 2 2]) (by simp [results, Tryd.results58, go_sem, c0, c1, c2, c3, c4, c5]) rfl ?_
    refine ⟨_, n8, s8, rfl, isNdP_keep (Nat.le_refl _) (fun b h1 _ => ⟨rfl, h1.1⟩) _ _ (ndp_two (op := op) (nm := []) (ar := []) (isNdP_keep (by omega) (fun b h1 _ => ⟨hk b h1.2, h1⟩) _ _ e8) (isNdP_keep (by omega) (fun b h1 _ => ⟨hk b h1.2, h1⟩) _ _ e8') (Below.refl _ _) hz.symm ⟨HPP.out _ (by omega), by omega⟩ HO.out txt_nil txt_nil hpos), (h8.set hz hk (by omega) (by omega)).alloc _, (hbb pb w bs8 (by omega)).alloc _, HF8.out⟩
end Go.Proofs.YtgojjknbingfpaaDoor

/- What the law's own 'known' answers: true. -/
import Derived.Test.YtgojjknbingfpaaDoorPaP
import Derived.Test.YtgojjknbingfpaaDoorRPaW
namespace Go.Proofs.YtgojjknbingfpaaDoor
open Go.RowKit Go.Em5 Go.Em6
set_option linter.unusedSimpArgs false

def k6Text : List Int := [102, 32, 120, 32, 121]
def k6Nd : Nd := nd [97, 112, 112] 4 [nd [97, 112, 112] 2 [.mk [118, 97, 114] [102] [] 0 0 [], .mk [118, 97, 114] [120] [] 0 2 []], .mk [118, 97, 114] [121] [] 0 4 []]
theorem k6_parse : Em6.parse k6Text = .ok k6Nd := by rfl
theorem k6_str : Em.IsStr ⟨#[102, 32, 120, 32, 121]⟩ k6Text := ⟨rfl, by decide⟩

set_option maxRecDepth 100000 in
set_option maxHeartbeats 2000000 in
theorem known6_any (w : World) (hg : IsSigns w) : Calls Tryd.prog 10 #[] w fun e w' => e = .returned (.bool true) ∧ Below w.heap.size w w' := by
  have HG : Hid (IsSigns w) := hg
  clear hg
  go_enter Tryd.func10, Tryd.ntmps10
  go_wp2_with fail
  refine (qparse_any _ k6Text _ k6_str (by decide) HG.out).mono ?_
  rintro e w1 ⟨hgot, hb1⟩
  rw [k6_parse] at hgot
  obtain ⟨v, rfl, hn⟩ := hgot
  have hn' : NdB w.heap.size w1 (.mk [97, 112, 112] [] [] 0 4 [nd [97, 112, 112] 2 [.mk [118, 97, 114] [102] [] 0 0 [], .mk [118, 97, 114] [120] [] 0 2 []], .mk [118, 97, 114] [121] [] 0 4 []]) v := hn
  unfold NdB IsNdP at hn'
  obtain ⟨a, cap, rfl, -, -, -, -, -, hc1, hc2, hk⟩ := hn'
  obtain ⟨b, off, rfl, hbl, -, hka⟩ := hk (by simp)
  obtain ⟨c0, c1, c2, c3, c4, c5, m0, m1, m2, m3, m4, m5, kn⟩ := kidsAtP_get _ _ 0 _ hka rfl
  have kn' : IsNdP _ w1 (.mk [97, 112, 112] [] [] 0 2 [.mk [118, 97, 114] [102] [] 0 0 [], .mk [118, 97, 114] [120] [] 0 2 []]) (.agg #[c0, c1, c2, c3, c4, c5]) := kn
  unfold IsNdP at kn'
  obtain ⟨a2, cap2, e2, -⟩ := kn'
  simp only [Value.agg.injEq, Array.mk.injEq, List.cons.injEq, and_true] at e2
  obtain ⟨rfl, rfl, rfl, rfl, rfl, rfl⟩ := e2
  simp only [Nat.zero_mul, Nat.add_zero] at m0 m1 m2 m3 m4 m5
  have qa : ((Em.str [97, 112, 112]).toList == [97, 112, 112]) = true := (Em5.str_eq (by decide) _).trans (by decide)
  simp only [List.length_cons, List.length_nil] at hc1
  have hcap : (2 : Int) ≤ (cap : Int) := by omega
  clear hn hka hk kn m1 m2 m3 m4 m5
  have bel := hb1.alloc hb1.size (.cells #[.string (Em.str [97, 112, 112]), .string (Em.str []), .string (Em.str []), .int .i64 0, .int .i64 4, .slice (some ⟨b, off, none⟩) 2 cap] 24)
  go_wp2_with fail
  go_ret
  exact ⟨rfl, bel⟩
end Go.Proofs.YtgojjknbingfpaaDoor

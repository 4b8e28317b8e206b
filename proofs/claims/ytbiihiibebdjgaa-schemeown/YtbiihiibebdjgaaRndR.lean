/- A region that draws its order, inside a round of a range over a function: no operation of it is a defer, so it goes as it does outside one. -/
import Derived.OrdersIn
import Derived.OwnWalkIn
import Derived.NoCompiler
namespace Go.Proofs.Ytbiihiibebdjgaa
open Go

/-- Nothing in a region defers. -/
def NoDefer (ops : Array Oper) : Prop := ∀ (i : Nat) (o : Oper), ops[i]? = some o → ∀ c, o.op ≠ .defer c

def noDeferB (ops : Array Oper) : Bool := ops.toList.all fun o => match o.op with | .defer _ => false | _ => true

theorem noDefer_of {ops : Array Oper} (h : noDeferB ops = true) : NoDefer ops := by
  intro i o ho c hc
  have hm : o ∈ ops.toList := by
    rw [Array.mem_toList_iff]
    exact Array.mem_of_getElem? ho
  have := List.all_eq_true.1 h o hm
  simp [hc] at this

theorem wpOpIn_plain {F : Fence} {n : Nat} {P : Program} {ops : Array Oper} {Q : Exit → Act → World → Prop} (hd : NoDefer ops) {i : Nat} {K : Act → World → Prop} {a : Act} {w : World} (h : wpOpIn F.plain n P ops Q i K a w) : wpOpIn F n P ops Q i K a w := by
  unfold wpOpIn at *
  cases ho : ops[i]? with
  | none => simpa only [ho] using h
  | some o =>
    simp only [ho] at h ⊢
    split
    · rename_i hw
      simp only [hw, if_true] at h
      unfold Oper.wpIn at *
      rw [Oper.semAt_plain F _ _ (hd i o ho)]
      rw [Oper.semAt_plain F.plain _ _ (hd i o ho)] at h
      exact h
    · rename_i hw
      simp only [hw] at h
      exact h

theorem wpAnyIn_plain {F : Fence} {n : Nat} {P : Program} {ops : Array Oper} {Q : Exit → Act → World → Prop} {md : Region.Mode} (hd : NoDefer ops) : ∀ (fuel : Nat) (listed : Array Bool) (a : Act) (w : World), wpAnyIn F.plain n P md ops Q fuel listed a w → wpAnyIn F n P md ops Q fuel listed a w
  | 0, _, _, _, h => h
  | fuel + 1, _, _, _, h => ⟨h.1, fun i hi => wpOpIn_plain hd (wpOpIn_mono (fun a w h => wpAnyIn_plain hd fuel _ a w h) (h.2 i hi))⟩

/-- The beginning. -/
theorem wpIn_region_round {F : Fence} {n : Nat} {P : Program} {ops : Array Oper} {Q : Exit → Act → World → Prop} {id : Nat} {a : Act} {w : World} (hm : P.follows .mixedOrders = true) (hd : noDeferB ops = true) (h : wpAnyIn F.plain n P .any ops Q ops.size (Array.replicate ops.size false) a (World.drew w)) : (Code.region id ops true).wpIn F n P Q a w :=
  wpIn_region_any hm (wpAnyIn_plain (noDefer_of hd) _ _ _ _ h)

end Go.Proofs.Ytbiihiibebdjgaa

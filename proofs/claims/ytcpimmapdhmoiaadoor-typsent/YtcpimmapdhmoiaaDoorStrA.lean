/- Strings put together; a slice of one byte. -/
import Derived.Test.YtcpimmapdhmoiaaDoorStr
namespace Go.Proofs.YtcpimmapdhmoiaaDoor
open Go.RowKit

theorem isBytes_one (w : World) (x : Int) (t : TypeId) (hx : 0 ≤ x ∧ x ≤ 255) : Em.IsBytes (w.alloc (.cells #[.int .u8 x] t)) (.slice (some ⟨w.heap.size, 0, none⟩) 1 1) [x] := by
  refine ⟨some ⟨w.heap.size, 0, none⟩, 1, rfl, ?_⟩
  simp [maxLen]
  exact ⟨hx, by simp [Addr.add]⟩
theorem str_size (L : List Int) : (Em.str L).size = L.length := by simp [Em.str, ByteArray.size]
theorem str_app (L M : List Int) : Em.str L ++ Em.str M = Em.str (L ++ M) := by
  unfold Em.str
  rw [List.map_append]
  rfl

theorem isStr_app {s t : ByteArray} {L M : List Int} (h : Em.IsStr s L) (k : Em.IsStr t M) : Em.IsStr (s ++ t) (L ++ M) := by
  refine ⟨by rw [h.1, k.1, str_app], fun x hx => ?_⟩
  rcases List.mem_append.1 hx with e | e
  · exact h.2 x e
  · exact k.2 x e
end Go.Proofs.YtcpimmapdhmoiaaDoor

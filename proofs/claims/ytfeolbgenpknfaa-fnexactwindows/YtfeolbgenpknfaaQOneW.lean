/- What is proved here: a slice of one byte in a new block, made into a text. -/
import Derived.Test.YtfeolbgenpknfaaProg
import Derived.WalkKit
import Derived.Laws.BytesArg
namespace Go.Proofs.Ytfeolbgenpknfaa
open Go.RowKit

/-- The text of one byte. -/
def one (x : Int) : ByteArray := strOfNums [x]
theorem one_size (x : Int) : (one x).size = 1 := by unfold one; rw [strOfNums_size]; rfl
theorem conv_one (x : Int) (w : World) : (convert 22 9 (Value.slice (some ⟨w.heap.size, 0, none⟩) 1 1)).run Try.prog (w.alloc (.cells #[.int .u8 x] 5)) = .ok (.string (one x)) (w.alloc (.cells #[.int .u8 x] 5)) :=
  run_convert_bytes_arg (P := Try.prog) _ 22 5 Try.underlying22 Try.underlying5 w.heap.size 0 1 1 [x] rfl (fun i hi => by
    rw [Nat.zero_add, World.cell?_alloc_mark]
    match i, hi with
    | 0, _ => rfl) 9 Try.underlying9
end Go.Proofs.Ytfeolbgenpknfaa

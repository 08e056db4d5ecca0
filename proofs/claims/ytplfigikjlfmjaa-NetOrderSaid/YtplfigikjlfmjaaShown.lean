/- A row of bytes that has just been laid. -/
import Derived.Test.YtplfigikjlfmjaaSum
import Derived.Lib.SlBytesConst
namespace Go.Proofs.Ytplfigikjlfmjaa
open Go.RowKit

/-- A row of bytes that has just been laid. -/
theorem byt_born (w : World) (l : List UInt8) (fr : Nat × Nat) : Byt (w.alloc (.cells (u8s l).toArray 5 fr)) (some ⟨w.heap.size, 0, none⟩) l := by
  intro k hk
  refine ⟨w.heap.size, 0, rfl, ?_⟩
  rw [Nat.zero_add, cell_of_row _ w.heap.size k (u8s l).toArray 5 fr (heap_alloc_new w _)]
  simp [u8s, hk]

end Go.Proofs.Ytplfigikjlfmjaa

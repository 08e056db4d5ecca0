/- The walk of stackyardlaw02.shown (14): true, and nothing that was there is turned. -/
import Derived.Test.YtbnfadpkkechcaaNumber
import Derived.Test.YtbnfadpkkechcaaSum
import Derived.Lib.SlBytesConst
namespace Go.Proofs.Ytbnfadpkkechcaa
open Go.RowKit

def nine : List UInt8 := [49, 50, 51, 52, 53, 54, 55, 56, 57]
theorem crc_nine : ((crcN nine).toNat : Int) = 3808858755 := by decide +kernel
theorem num_300 : num 300 = [172, 2] := by rfl

/-- A row of bytes that has just been laid. -/
theorem byt_born (w : World) (l : List UInt8) (fr : Nat × Nat) : Byt (w.alloc (.cells (u8s l).toArray 5 fr)) (some ⟨w.heap.size, 0, none⟩) l := by
  intro k hk
  refine ⟨w.heap.size, 0, rfl, ?_⟩
  rw [Nat.zero_add, cell_of_row _ w.heap.size k (u8s l).toArray 5 fr (heap_alloc_new w _)]
  simp [u8s, hk]

set_option maxHeartbeats 1000000 in
theorem shown_any (w : World) : Calls Try.prog 4 #[] w fun e w' => e = .returned (.bool true) ∧ Below w.heap.size w w' := by
  have hnum : Calls Try.prog 9 #[.slice none 0 0, .int .u64 300] w (Made w [172, 2]) := by
    have h := number_any none 0 300 [] w (Byt.empty _ _) (fun _ => rfl) (by simp) (by omega)
    rw [num_300] at h
    exact h
  have kc := fun (w : World) (C : Array Value) (n c : Nat) => Lib.run_convert_bytes_const (P := Try.prog) w 22 5 C n c Try.underlying22 Try.underlying5
  have hsum : ∀ w1 : World, Calls Try.prog 13 #[.slice (some ⟨w1.heap.size + 1, 0, none⟩) 1 1] ((w1.alloc (Obj.cells #[Value.int IntKind.u8 49, Value.int IntKind.u8 50, Value.int IntKind.u8 51, Value.int IntKind.u8 52, Value.int IntKind.u8 53, Value.int IntKind.u8 54, Value.int IntKind.u8 55, Value.int IntKind.u8 56, Value.int IntKind.u8 57] 5 (9, 10))).alloc (Obj.cells #[Value.slice (some ⟨w1.heap.size, 0, none⟩) 9 9] 22))
      fun e w' => e = .returned (.int .u32 3808858755) ∧ Below w1.heap.size w1 w' := by
    intro w1
    rw [← crc_nine]
    have hy := (byt_born w1 nine (9, 10)).keep ((Below.refl _ _).alloc (Nat.le_refl _) (Obj.cells #[Value.slice (some ⟨w1.heap.size, 0, none⟩) 9 9] 22))
    have hx := (Blk.born (w1.alloc (Obj.cells (u8s nine).toArray 5 (9, 10))) 22 [Value.slice (some ⟨w1.heap.size, 0, none⟩) 9 9]).at_ 0
    have hz : (w1.alloc (Obj.cells (u8s nine).toArray 5 (9, 10))).heap.size = w1.heap.size + 1 := by simp
    rw [hz] at hx
    refine (sum_one (w1.heap.size + 1) 1 9 (some ⟨w1.heap.size, 0, none⟩) 9 nine _ rfl hx hy (by unfold maxLen; decide) (by simp)).mono fun e w' h => ⟨h.1, ?_⟩
    rw [← h.2]
    exact ((Below.refl _ _).alloc (Nat.le_refl _) _).alloc (by simp) _
  go_enter Try.func4, Try.ntmps4
  go_wp2_with (first | (go_at_call 9; refine hnum.mono ?_; rintro e w1 ⟨v, rfl, hown, hbel⟩; obtain ⟨A, c, rfl, hbyt, _, _, _⟩ := hown.form; have hcv : (convert 22 9 (.slice A 2 c)).run Try.prog w1 = .ok (.string ⟨#[172, 2]⟩) w1 := conv hbyt c) | (go_at_call 13; refine (hsum _).mono ?_; rintro e w2 ⟨rfl, hbel2⟩))
  go_ret
  exact ⟨rfl, hbel.trans (hbel2.mono hbel.size)⟩
end Go.Proofs.Ytbnfadpkkechcaa

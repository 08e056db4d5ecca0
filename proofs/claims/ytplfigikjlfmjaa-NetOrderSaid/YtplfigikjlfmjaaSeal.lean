/- The walks of Seal (32) and Unseal (30), and of the document's (33, 31). -/
import Derived.Test.YtplfigikjlfmjaaShown
import Derived.Lib.Hide
import Derived.Lib.SlicesS
import Derived.Laws.IdiomStrings
namespace Go.Proofs.Ytplfigikjlfmjaa
open Go.RowKit
set_option linter.unusedVariables false

theorem bytesRow_get (s : ByteArray) (c k : Nat) (h : k < s.data.toList.length) : (bytesRow s c)[k]? = some (.int .u8 ((s.data.toList[k]).toNat : Int)) := by
  simp at h
  unfold bytesRow
  rw [Array.getElem?_append_left (by simpa using h)]
  simp [h]
/-- A text's bytes in a new block. -/
theorem byt_row (w : World) (s : ByteArray) (c : Nat) (fr : Nat × Nat) : Byt (w.alloc (.cells (bytesRow s c) 5 fr)) (some ⟨w.heap.size, 0, none⟩) s.data.toList := by
  intro k hk
  refine ⟨w.heap.size, 0, rfl, ?_⟩
  rw [Nat.zero_add, cell_of_row _ w.heap.size k (bytesRow s c) 5 fr (heap_alloc_new w _), bytesRow_get s c k hk]
theorem sum_text (s : ByteArray) (c : Nat) (fr : Nat × Nat) (w : World) (hs : s.size ≤ 1000000) :
    Calls Try.prog 30 #[.slice (some ⟨w.heap.size + 1, 0, none⟩) 1 1] ((w.alloc (Obj.cells (bytesRow s c) 5 fr)).alloc (Obj.cells #[Value.slice (some ⟨w.heap.size, 0, none⟩) s.size c] 63)).drew fun e w' => e = .returned (.int .u32 ((crcN s.data.toList).toNat : Int)) ∧ ((w.alloc (Obj.cells (bytesRow s c) 5 fr)).alloc (Obj.cells #[Value.slice (some ⟨w.heap.size, 0, none⟩) s.size c] 63)).drew = w' := by
  have hb : Byt (w.alloc (Obj.cells (bytesRow s c) 5 fr)) _ s.data.toList := byt_row w s c fr
  have h0 := (Blk.born (w.alloc (Obj.cells (bytesRow s c) 5 fr)) 63 [Value.slice (some ⟨w.heap.size, 0, none⟩) s.size c]).at_ 0
  have hz : (w.alloc (Obj.cells (bytesRow s c) 5 fr)).heap.size = w.heap.size + 1 := by simp
  rw [hz] at h0
  refine sum_one (w.heap.size + 1) 1 s.size (some ⟨w.heap.size, 0, none⟩) c s.data.toList _ (by rw [Array.length_toList]; rfl) h0 (hb.keep ?_) (by rw [Array.length_toList]; unfold maxLen; have : s.data.size = s.size := rfl; omega) (by simp)
  exact ((Below.refl _ _).alloc (Nat.le_refl _) _).drew

/-- The bytes of a sum, the lowest first. -/
def le4 (r : BitVec 32) : List UInt8 := [UInt8.ofNat r.toNat, UInt8.ofNat (r.toNat / 256), UInt8.ofNat (r.toNat / 65536), UInt8.ofNat (r.toNat / 16777216)]
theorem u8s_le4 (r : BitVec 32) : u8s (le4 r) = [.int .u8 ((r.toNat : Int) % 256), .int .u8 ((r.toNat : Int) / 256 % 256), .int .u8 ((r.toNat : Int) / 65536 % 256), .int .u8 ((r.toNat : Int) / 16777216)] := by
  have := r.isLt
  simp [u8s, le4]
  omega
theorem conv_le4 (r : BitVec 32) (w : World) (X : Nat) (hX : X = w.heap.size) :
    (convert 63 9 (.slice (some ⟨X, 0, none⟩) 4 4)).run Try.prog (w.alloc (Obj.cells #[.int .u8 ((r.toNat : Int) % 256), .int .u8 ((r.toNat : Int) / 256 % 256), .int .u8 ((r.toNat : Int) / 65536 % 256), .int .u8 ((r.toNat : Int) / 16777216)] 5)).drew = .ok (.string (str (le4 r))) (w.alloc (Obj.cells #[.int .u8 ((r.toNat : Int) % 256), .int .u8 ((r.toNat : Int) / 256 % 256), .int .u8 ((r.toNat : Int) / 65536 % 256), .int .u8 ((r.toNat : Int) / 16777216)] 5)).drew := by
  subst hX
  have h := byt_born w (le4 r) (0, 0)
  rw [u8s_le4] at h
  exact conv (l := le4 r) (h.keep (w' := (w.alloc (Obj.cells [.int .u8 ((r.toNat : Int) % 256), .int .u8 ((r.toNat : Int) / 256 % 256), .int .u8 ((r.toNat : Int) / 65536 % 256), .int .u8 ((r.toNat : Int) / 16777216)].toArray 5)).drew) (Below.refl _ _).drew) 4
/-- A text with its sum ahead of it. -/
def sealed (s : ByteArray) : ByteArray := str (le4 (crcN s.data.toList) ++ s.data.toList)
theorem sealed_eq (s : ByteArray) : str (le4 (crcN s.data.toList)) ++ s = sealed s := by
  apply ByteArray.ext
  simp [sealed, str]

set_option maxHeartbeats 1000000 in
set_option maxRecDepth 100000 in
theorem seal_any (s : ByteArray) (w : World) (hs : s.size ≤ 1000000) : Calls Try.prog 15 #[.string s] w fun e w' => e = .returned (.string (sealed s)) ∧ Below w.heap.size w w' := by
  have kb := fun (w : World) (s : ByteArray) => run_bytes_of_string (P := Try.prog) w 9 63 5 s Try.underlying9 Try.underlying63 Try.underlying5
  have kc := fun (w : World) (C : Array Value) (n c : Nat) => Lib.run_convert_bytes_const (P := Try.prog) w 63 5 C n c Try.underlying63 Try.underlying5
  have hsum := fun c fr => sum_text s c fr w hs
  have hse := Lib.hid (sealed_eq s)
  have hsz : (str (le4 (crcN s.data.toList))).size = 4 := rfl
  generalize crcN s.data.toList = r at hsum hse hsz
  have hcv := fun c fr => conv_le4 r ((w.alloc (Obj.cells (bytesRow s c) 5 fr)).alloc (Obj.cells #[Value.slice (some ⟨w.heap.size, 0, none⟩) s.size c] 63)) (w.heap.size + 1 + 1) (by simp)
  go_enter Try.func15, Try.ntmps15
  go_wp2_with (go_at_call 30; refine (hsum _ _).mono ?_; rintro e w2 ⟨rfl, rfl⟩)
  all_goals rw [hse.out]
  all_goals (go_ret; exact ⟨rfl, ((((Below.refl _ _).alloc (Nat.le_refl _) _).alloc (by simp) _).alloc (by simp; omega) _).drew⟩)
end Go.Proofs.Ytplfigikjlfmjaa

/- The walks of Seal (32) and Unseal (30), and of the document's (33, 31). -/
import Derived.Test.YtmjhimbjnmgklaaShown
import Derived.Lib.Hide
import Derived.Lib.SlicesS
import Derived.Laws.IdiomStrings
namespace Go.Proofs.Ytmjhimbjnmgklaa
open Go.RowKit
set_option linter.unusedVariables false

theorem bytesRow_get (s : ByteArray) (c k : Nat) (h : k < s.data.toList.length) : (bytesRow s c)[k]? = some (.int .u8 ((s.data.toList[k]).toNat : Int)) := by
  simp at h
  unfold bytesRow
  rw [Array.getElem?_append_left (by simpa using h)]
  simp [h]
/-- A text's bytes in a new block. -/
theorem byt_row (w : World) (s : ByteArray) (c : Nat) (fr : Nat × Nat) : Byt (w.alloc (.cells (bytesRow s c) 5 fr)) (some ⟨w.heap.size, 0, none⟩) s.data.toList := by
  intro k hk
  refine ⟨w.heap.size, 0, rfl, ?_⟩
  rw [Nat.zero_add, cell_of_row _ w.heap.size k (bytesRow s c) 5 fr (heap_alloc_new w _), bytesRow_get s c k hk]
theorem sum_text (s : ByteArray) (c : Nat) (fr : Nat × Nat) (w : World) (hs : s.size ≤ 1000000) :
    Calls Try.prog 27 #[.slice (some ⟨w.heap.size + 1, 0, none⟩) 1 1] ((w.alloc (Obj.cells (bytesRow s c) 5 fr)).alloc (Obj.cells #[Value.slice (some ⟨w.heap.size, 0, none⟩) s.size c] 22)).drew fun e w' => e = .returned (.int .u32 ((crcN s.data.toList).toNat : Int)) ∧ ((w.alloc (Obj.cells (bytesRow s c) 5 fr)).alloc (Obj.cells #[Value.slice (some ⟨w.heap.size, 0, none⟩) s.size c] 22)).drew = w' := by
  have hb : Byt (w.alloc (Obj.cells (bytesRow s c) 5 fr)) _ s.data.toList := byt_row w s c fr
  have h0 := (Blk.born (w.alloc (Obj.cells (bytesRow s c) 5 fr)) 22 [Value.slice (some ⟨w.heap.size, 0, none⟩) s.size c]).at_ 0
  have hz : (w.alloc (Obj.cells (bytesRow s c) 5 fr)).heap.size = w.heap.size + 1 := by simp
  rw [hz] at h0
  refine sum_one (w.heap.size + 1) 1 s.size (some ⟨w.heap.size, 0, none⟩) c s.data.toList _ (by rw [Array.length_toList]; rfl) h0 (hb.keep ?_) (by rw [Array.length_toList]; unfold maxLen; have : s.data.size = s.size := rfl; omega) (by simp)
  exact ((Below.refl _ _).alloc (Nat.le_refl _) _).drew

/-- The bytes of a sum, the lowest first. -/
def le4 (r : BitVec 32) : List UInt8 := [UInt8.ofNat r.toNat, UInt8.ofNat (r.toNat / 256), UInt8.ofNat (r.toNat / 65536), UInt8.ofNat (r.toNat / 16777216)]
theorem u8s_le4 (r : BitVec 32) : u8s (le4 r) = [.int .u8 ((r.toNat : Int) % 256), .int .u8 ((r.toNat : Int) / 256 % 256), .int .u8 ((r.toNat : Int) / 65536 % 256), .int .u8 ((r.toNat : Int) / 16777216)] := by
  have := r.isLt
  simp [u8s, le4]
  omega
theorem conv_le4 (r : BitVec 32) (w : World) (X : Nat) (hX : X = w.heap.size) :
    (convert 22 9 (.slice (some ⟨X, 0, none⟩) 4 4)).run Try.prog (w.alloc (Obj.cells #[.int .u8 ((r.toNat : Int) % 256), .int .u8 ((r.toNat : Int) / 256 % 256), .int .u8 ((r.toNat : Int) / 65536 % 256), .int .u8 ((r.toNat : Int) / 16777216)] 5)).drew = .ok (.string (str (le4 r))) (w.alloc (Obj.cells #[.int .u8 ((r.toNat : Int) % 256), .int .u8 ((r.toNat : Int) / 256 % 256), .int .u8 ((r.toNat : Int) / 65536 % 256), .int .u8 ((r.toNat : Int) / 16777216)] 5)).drew := by
  subst hX
  have h := byt_born w (le4 r) (0, 0)
  rw [u8s_le4] at h
  exact conv (l := le4 r) (h.keep (w' := (w.alloc (Obj.cells [.int .u8 ((r.toNat : Int) % 256), .int .u8 ((r.toNat : Int) / 256 % 256), .int .u8 ((r.toNat : Int) / 65536 % 256), .int .u8 ((r.toNat : Int) / 16777216)].toArray 5)).drew) (Below.refl _ _).drew) 4
/-- A text with its sum ahead of it. -/
def sealed (s : ByteArray) : ByteArray := str (le4 (crcN s.data.toList) ++ s.data.toList)
theorem sealed_eq (s : ByteArray) : str (le4 (crcN s.data.toList)) ++ s = sealed s := by
  apply ByteArray.ext
  simp [sealed, str]

set_option maxHeartbeats 1000000 in
set_option maxRecDepth 100000 in
theorem seal_any (s : ByteArray) (w : World) (hs : s.size ≤ 1000000) : Calls Try.prog 32 #[.string s] w fun e w' => e = .returned (.string (sealed s)) ∧ Below w.heap.size w w' := by
  have kb := fun (w : World) (s : ByteArray) => run_bytes_of_string (P := Try.prog) w 9 22 5 s Try.underlying9 Try.underlying22 Try.underlying5
  have kc := fun (w : World) (C : Array Value) (n c : Nat) => Lib.run_convert_bytes_const (P := Try.prog) w 22 5 C n c Try.underlying22 Try.underlying5
  have hsum := fun c fr => sum_text s c fr w hs
  have hse := Lib.hid (sealed_eq s)
  have hsz : (str (le4 (crcN s.data.toList))).size = 4 := rfl
  generalize crcN s.data.toList = r at hsum hse hsz
  have hcv := fun c fr => conv_le4 r ((w.alloc (Obj.cells (bytesRow s c) 5 fr)).alloc (Obj.cells #[Value.slice (some ⟨w.heap.size, 0, none⟩) s.size c] 22)) (w.heap.size + 1 + 1) (by simp)
  go_enter Try.func32, Try.ntmps32
  go_wp2_with (go_at_call 27; refine (hsum _ _).mono ?_; rintro e w2 ⟨rfl, rfl⟩)
  all_goals rw [hse.out]
  all_goals (go_ret; exact ⟨rfl, ((((Below.refl _ _).alloc (Nat.le_refl _) _).alloc (by simp) _).alloc (by simp; omega) _).drew⟩)
theorem refsum_text (s : ByteArray) (c : Nat) (fr : Nat × Nat) (w : World) (hs : s.size ≤ 1000000) :
    Calls Try.prog 28 #[.slice (some ⟨w.heap.size, 0, none⟩) s.size c] (w.alloc (Obj.cells (bytesRow s c) 5 fr)).drew fun e w' => e = .returned (.int .u32 ((crcN s.data.toList).toNat : Int)) ∧ (w.alloc (Obj.cells (bytesRow s c) 5 fr)).drew = w' := by
  have hb : Byt (w.alloc (Obj.cells (bytesRow s c) 5 fr)) _ s.data.toList := byt_row w s c fr
  have hz : s.size = s.data.toList.length := by rw [Array.length_toList]; rfl
  rw [hz]
  exact refsum_any _ c s.data.toList _ (hb.keep (Below.refl _ _).drew) (by unfold maxLen; omega)

set_option maxHeartbeats 1000000 in
set_option maxRecDepth 100000 in
theorem refseal_any (s : ByteArray) (w : World) (hs : s.size ≤ 1000000) : Calls Try.prog 33 #[.string s] w fun e w' => e = .returned (.string (sealed s)) ∧ Below w.heap.size w w' := by
  have kb := fun (w : World) (s : ByteArray) => run_bytes_of_string (P := Try.prog) w 9 22 5 s Try.underlying9 Try.underlying22 Try.underlying5
  have kc := fun (w : World) (C : Array Value) (n c : Nat) => Lib.run_convert_bytes_const (P := Try.prog) w 22 5 C n c Try.underlying22 Try.underlying5
  have hsum := fun c fr => refsum_text s c fr w hs
  have hse := Lib.hid (sealed_eq s)
  have hsz : (str (le4 (crcN s.data.toList))).size = 4 := rfl
  generalize crcN s.data.toList = r at hsum hse hsz
  have hcv := fun c fr => conv_le4 r (w.alloc (Obj.cells (bytesRow s c) 5 fr)) (w.heap.size + 1) (by simp)
  go_enter Try.func33, Try.ntmps33
  go_wp2_with (go_at_call 28; refine (hsum _ _).mono ?_; rintro e w2 ⟨rfl, rfl⟩)
  all_goals rw [hse.out]
  all_goals (go_ret; exact ⟨rfl, (((Below.refl _ _).alloc (Nat.le_refl _) _).alloc (by simp) _).drew⟩)

/-- Is a text sealed? -/
def IsS (s : ByteArray) : Prop := 4 ≤ s.size ∧ sealed (s.extract 4 s.size) = s
instance (s : ByteArray) : Decidable (IsS s) := by unfold IsS; infer_instance
def unS (s : ByteArray) : ByteArray := if IsS s then s.extract 4 s.size else ⟨#[]⟩
def unE (s : ByteArray) : Int := if IsS s then 0 else 200
theorem un_no {s : ByteArray} (h : ¬ IsS s) : Ending.returned (.tuple #[.string ⟨#[]⟩, .int .i64 200]) = .returned (.tuple #[.string (unS s), .int .i64 (unE s)]) := by simp [unS, unE, h]
theorem un_yes {s : ByteArray} (h : IsS s) : Ending.returned (.tuple #[.string (s.extract 4 s.size), .int .i64 0]) = .returned (.tuple #[.string (unS s), .int .i64 (unE s)]) := by simp [unS, unE, h]

set_option maxHeartbeats 1000000 in
set_option maxRecDepth 100000 in
theorem unseal_any (s : ByteArray) (w : World) (hs : s.size ≤ 1000000) : Calls Try.prog 30 #[.string s] w fun e w' => e = .returned (.tuple #[.string (unS s), .int .i64 (unE s)]) ∧ Below w.heap.size w w' := by
  have hse := seal_any (s.extract 4 s.size) w (by simp; omega)
  by_cases h4 : s.size < 4
  · have t : decide ((s.size : Int) < 4) = true := by simp; omega
    have hn := Lib.hid (un_no (s := s) (fun h => by have := h.1; omega))
    go_enter Try.func30, Try.ntmps30
    go_wp2_with fail
    go_ret2
    exact ⟨hn.out, Below.refl _ _⟩
  · have t : decide ((s.size : Int) < 4) = false := by simp; omega
    by_cases he : sealed (s.extract 4 s.size) = s
    · have hn := Lib.hid (un_yes (s := s) ⟨by omega, he⟩)
      have te : ((sealed (s.extract 4 s.size)).toList == s.toList) = true := (Go.Lib.bytes_beq_iff _ _).2 he
      generalize sealed (s.extract 4 s.size) = q at hse te
      clear he
      go_enter Try.func30, Try.ntmps30
      go_wp2_with (go_at_call 32; refine hse.mono ?_; rintro e w2 ⟨rfl, hb2⟩)
      go_ret2
      exact ⟨hn.out, hb2⟩
    · have hn := Lib.hid (un_no (s := s) (fun h => he h.2))
      have te : ((sealed (s.extract 4 s.size)).toList == s.toList) = false := (Go.Lib.bytes_beq_false_iff _ _).2 he
      generalize sealed (s.extract 4 s.size) = q at hse te
      clear he
      go_enter Try.func30, Try.ntmps30
      go_wp2_with (go_at_call 32; refine hse.mono ?_; rintro e w2 ⟨rfl, hb2⟩)
      go_ret2
      exact ⟨hn.out, hb2⟩

set_option maxHeartbeats 1000000 in
set_option maxRecDepth 100000 in
theorem refunseal_any (s : ByteArray) (w : World) (hs : s.size ≤ 1000000) : Calls Try.prog 31 #[.string s] w fun e w' => e = .returned (.tuple #[.string (unS s), .int .i64 (unE s)]) ∧ Below w.heap.size w w' := by
  have hse := refseal_any (s.extract 4 s.size) w (by simp; omega)
  by_cases h4 : s.size < 4
  · have t : decide ((s.size : Int) < 4) = true := by simp; omega
    have hn := Lib.hid (un_no (s := s) (fun h => by have := h.1; omega))
    go_enter Try.func31, Try.ntmps31
    go_wp2_with fail
    go_ret2
    exact ⟨hn.out, Below.refl _ _⟩
  · have t : decide ((s.size : Int) < 4) = false := by simp; omega
    by_cases he : sealed (s.extract 4 s.size) = s
    · have hn := Lib.hid (un_yes (s := s) ⟨by omega, he⟩)
      have te : ((sealed (s.extract 4 s.size)).toList == s.toList) = true := (Go.Lib.bytes_beq_iff _ _).2 he
      generalize sealed (s.extract 4 s.size) = q at hse te
      clear he
      go_enter Try.func31, Try.ntmps31
      go_wp2_with (go_at_call 33; refine hse.mono ?_; rintro e w2 ⟨rfl, hb2⟩)
      go_ret2
      exact ⟨hn.out, hb2⟩
    · have hn := Lib.hid (un_no (s := s) (fun h => he h.2))
      have te : ((sealed (s.extract 4 s.size)).toList == s.toList) = false := (Go.Lib.bytes_beq_false_iff _ _).2 he
      generalize sealed (s.extract 4 s.size) = q at hse te
      clear he
      go_enter Try.func31, Try.ntmps31
      go_wp2_with (go_at_call 33; refine hse.mono ?_; rintro e w2 ⟨rfl, hb2⟩)
      go_ret2
      exact ⟨hn.out, hb2⟩
end Go.Proofs.Ytmjhimbjnmgklaa

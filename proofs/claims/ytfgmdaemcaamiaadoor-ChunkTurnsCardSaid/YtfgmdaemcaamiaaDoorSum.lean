/- The walks of wire.Sum  and of the document's sum : each answers the CRC-32C of the bytes. -/
import Derived.Test.YtfgmdaemcaamiaaDoorMem
import Derived.Test.YtfgmdaemcaamiaaDoorCrc
namespace Go.Proofs.YtfgmdaemcaamiaaDoor
open Go.RowKit

theorem ret_u32 {a b : Int} (h : a = b) : Ending.returned (.int .u32 a) = .returned (.int .u32 b) := by rw [h]
theorem int_u32 {a b : Int} (h : a = b) : Value.int .u32 a = .int .u32 b := by rw [h]
set_option maxHeartbeats 1000000 in
theorem sum_any (A : Option Addr) (cap : Nat) (ps : List (List UInt8)) (w : World) (hp : Parts w A ps) (hl : ps.length ≤ maxLen) :
    Calls Tryd.prog 44 #[.slice A ps.length cap] w fun e w' => e = .returned (.int .u32 ((crcN ps.flatten).toNat : Int)) ∧ w = w' := by
  unfold maxLen at hl
  go_enter Tryd.func44, Tryd.ntmps44
  go_wp2
  go_loop [3, 10] (fun r i => ∃ k : Nat, k ≤ ps.length ∧ i = .int .i64 k ∧ r = .int .u32 ((foldN ones32 (ps.take k).flatten).toNat : Int)) (fun _ i => ps.length - (intOf i).toNat)
  case atStart => exact ⟨0, Nat.zero_le _, rfl, rfl⟩
  case round =>
    obtain ⟨k, hk, rfl, rfl⟩ := hrel
    by_cases hlt : k < ps.length
    · obtain ⟨b, o, a, c, rfl, hc, hb, hm, _⟩ := hp k hlt
      unfold maxLen at hm
      have HS : Hid ((ps.take (k + 1)).flatten = (ps.take k).flatten ++ ps[k]) := flat_snoc ps k hlt
      generalize ps[k] = q at hc hb hm HS
      generalize (ps.take k).flatten = d at HS
      go_wp2
      go_loop [3, 16] (fun r i => ∃ j : Nat, j ≤ q.length ∧ i = .int .i64 j ∧ r = .int .u32 ((foldN ones32 (d ++ q.take j)).toNat : Int)) (fun _ i => q.length - (intOf i).toNat)
      case atStart => exact ⟨0, Nat.zero_le _, rfl, by simp⟩
      case round =>
        obtain ⟨j, hj, rfl, rfl⟩ := hrel
        by_cases hjl : j < q.length
        · obtain ⟨b2, o2, rfl, hc2⟩ := hb j hjl
          have HT : Hid (foldN ones32 (d ++ q.take (j + 1)) = bitsN 8 (foldN ones32 (d ++ q.take j) ^^^ BitVec.ofNat 32 (q[j]).toNat)) := by
            show _ = _
            rw [List.take_succ_eq_append_getElem hjl, ← List.append_assoc, foldN_snoc]; rfl
          generalize foldN ones32 (d ++ q.take j) = r0 at HT
          generalize q[j] = x at hc2 HT
          go_wp2
          go_loop [3, 24] (fun r i => ∃ t : Nat, t ≤ 8 ∧ i = .int .i64 t ∧ r = .int .u32 ((bitsN t (r0 ^^^ BitVec.ofNat 32 x.toNat)).toNat : Int)) (fun _ i => 8 - (intOf i).toNat)
          case atStart => exact ⟨0, Nat.zero_le _, rfl, int_u32 (xor_byte r0 x)⟩
          case round =>
            obtain ⟨t, ht, rfl, rfl⟩ := hrel
            by_cases htl : t < 8
            · go_wp2
              go_round
              case rel => exact ⟨t + 1, by omega, by go_num, int_u32 (step_wire _)⟩
              case measure => simp [intOf]; omega
            · obtain rfl : t = 8 := by omega
              go_wp2
              go_round
              case rel => exact ⟨j + 1, by omega, by go_num, by rw [HT.out]⟩
              case measure => simp [intOf]; omega
        · obtain rfl : j = q.length := by omega
          go_wp2
          go_round
          case rel => exact ⟨k + 1, by omega, by go_num, by rw [HS.out]; simp⟩
          case measure => simp [intOf]; omega
    · obtain rfl : k = ps.length := by omega
      go_wp2
      go_ret
      exact ⟨ret_u32 (not_wire _), rfl⟩

set_option maxHeartbeats 1000000 in
theorem refsum_any (A : Option Addr) (cap : Nat) (l : List UInt8) (w : World) (hp : Byt w A l) (hl : l.length ≤ maxLen) :
    Calls Tryd.prog 28 #[.slice A l.length cap] w fun e w' => e = .returned (.int .u32 ((crcN l).toNat : Int)) ∧ w = w' := by
  unfold maxLen at hl
  go_enter Tryd.func28, Tryd.ntmps28
  go_wp2
  go_loop [3, 4] (fun r i => ∃ k : Nat, k ≤ l.length ∧ i = .int .i64 k ∧ r = .int .u32 ((foldN ones32 (l.take k)).toNat : Int)) (fun _ i => l.length - (intOf i).toNat)
  case atStart => exact ⟨0, Nat.zero_le _, rfl, rfl⟩
  case round =>
    obtain ⟨k, hk, rfl, rfl⟩ := hrel
    by_cases hlt : k < l.length
    · obtain ⟨b, o, rfl, hc⟩ := hp k hlt
      have HT : Hid (foldN ones32 (l.take (k + 1)) = bitsN 8 (foldN ones32 (l.take k) ^^^ BitVec.ofNat 32 (l[k]).toNat)) := foldN_take _ _ _ hlt
      generalize foldN ones32 (l.take k) = r0 at HT
      generalize l[k] = x at hc HT
      go_wp2
      go_loop [3, 5] (fun r i => ∃ t : Nat, t ≤ 8 ∧ i = .int .i64 t ∧ r = .int .u32 ((bitsN t (r0 ^^^ BitVec.ofNat 32 x.toNat)).toNat : Int)) (fun _ i => 8 - (intOf i).toNat)
      case atStart => exact ⟨0, Nat.zero_le _, rfl, int_u32 (xor_byte r0 x)⟩
      case round =>
        obtain ⟨t, ht, rfl, rfl⟩ := hrel
        by_cases htl : t < 8
        · have hlo := (bitsN t (r0 ^^^ BitVec.ofNat 32 x.toNat)).isLt
          generalize hg : bitsN t (r0 ^^^ BitVec.ofNat 32 x.toNat) = y at hlo
          have HG : Hid (bitsN (t + 1) (r0 ^^^ BitVec.ofNat 32 x.toNat) = bitN y) := by show bitN _ = _; rw [hg]
          clear hg
          go_wp2
          · go_round
            case rel => exact ⟨t + 1, by omega, by go_num, by rw [HG.out]; exact int_u32 (step_ref1 _ (by first | assumption | simp_all))⟩
            case measure => simp [intOf]; omega
          · go_round
            case rel => exact ⟨t + 1, by omega, by go_num, by rw [HG.out]; exact int_u32 (step_ref0 _ (by first | assumption | simp_all))⟩
            case measure => simp [intOf]; omega
        · obtain rfl : t = 8 := by omega
          go_wp2
          go_round
          case rel => exact ⟨k + 1, by omega, by go_num, by rw [HT.out]⟩
          case measure => simp [intOf]; omega
    · obtain rfl : k = l.length := by omega
      go_wp2
      go_ret
      exact ⟨ret_u32 (not_ref _), rfl⟩

/-- The sum of one part. -/
theorem sum_one (X cap m : Nat) (A : Option Addr) (c : Nat) (l : List UInt8) (w : World) (hm : m = l.length) (h0 : w.cell? ⟨X, 0, none⟩ = some (.slice A m c)) (hb : Byt w A l) (hl : l.length ≤ maxLen) (hn : A = none → c = 0) :
    Calls Tryd.prog 44 #[.slice (some ⟨X, 0, none⟩) 1 cap] w fun e w' => e = .returned (.int .u32 ((crcN l).toNat : Int)) ∧ w = w' := by
  subst hm
  have h := sum_any (some ⟨X, 0, none⟩) cap [l] w (parts_one h0 hb hl hn) (by unfold maxLen; simp)
  have e : [l].flatten = l := by simp
  rw [e] at h
  exact h
/-- The sum of one slice that has just been laid in a block of its own. -/
theorem sum_boxed (X m c : Nat) (A : Option Addr) (l : List UInt8) (w : World) (hX : X = w.heap.size) (hm : m = l.length) (hb : Byt w A l) (hl : l.length ≤ maxLen) (hn : A = none → c = 0) :
    Calls Tryd.prog 44 #[.slice (some ⟨X, 0, none⟩) 1 1] (w.alloc (Obj.cells #[.slice A m c] 24)) fun e w' => e = .returned (.int .u32 ((crcN l).toNat : Int)) ∧ w.alloc (Obj.cells #[.slice A m c] 24) = w' := by
  subst hX
  exact sum_one w.heap.size 1 m A c l _ hm ((Blk.born w 24 [.slice A m c]).at_ 0) (hb.keep ((Below.refl _ _).alloc (Nat.le_refl _) _)) hl hn
end Go.Proofs.YtfgmdaemcaamiaaDoor

/- The walk of wire.Number (19): the bytes that came, and the number's bytes behind them, in a row of the call's own. -/
import Derived.Test.YtfgmdaemcaamiaaDoorConcat
import Derived.Test.YtfgmdaemcaamiaaDoorNum
import Derived.Deep.LoopGhost
namespace Go.Proofs.YtfgmdaemcaamiaaDoor
open Go.RowKit


/-- The ten cells of 'groups' when d has been laid. -/
def gcells (d : List UInt8) : List Value := u8s d ++ List.replicate (10 - d.length) (.int .u8 0)
theorem gcells_get (d : List UInt8) (h : d.length < 10) : (gcells d)[d.length]? = some (.int .u8 0) := by
  unfold gcells
  rw [List.getElem?_append_right (by rw [u8s_len]; omega), u8s_len, Nat.sub_self, List.getElem?_replicate, if_pos (by omega)]
theorem gcells_set (d : List UInt8) (c : UInt8) (h : d.length < 10) : (gcells d).set d.length (.int .u8 (c.toNat : Int)) = gcells (d ++ [c]) := by
  unfold gcells
  have e : 10 - d.length = (10 - (d ++ [c]).length) + 1 := by simp; omega
  rw [e, List.replicate_succ, List.set_append_right _ _ (by rw [u8s_len]; omega), u8s_len, Nat.sub_self, u8s_app]
  simp [u8s]
theorem gcells_byt {w : World} {g : Nat} {d : List UInt8} (h : Blk w g 61 (gcells d)) : Byt w (some ⟨g, 0, none⟩) d := by
  intro k hk
  refine ⟨g, 0, rfl, ?_⟩
  rw [Nat.zero_add, h.at_]
  unfold gcells
  rw [List.getElem?_append_left (by rw [u8s_len]; exact hk)]
  simp [u8s, hk]

theorem slice_groups (g k : Nat) (hk : k ≤ 9) : ∀ w : World, (Instr.sliceAt 61 (.pointer (some ⟨g, 0, none⟩)) none (some (.int .i64 ((k : Int) + 1))) none).run Tryd.prog w = .ok (.slice (some ⟨g, 0, none⟩) (k + 1) 10) w := by
  intro w
  have hu : Tryd.prog.underlying 61 = some (.array 10 5) := Tryd.underlying61
  have hn : Tryd.prog.arrayLen 61 = 10 := by simp [Program.arrayLen, hu]
  have he : Tryd.prog.elem 61 = 5 := by simp [Program.elem, hu]
  rw [run_sliceAt_array_h w 61 ⟨g, 0, none⟩ (by rw [hn, he]; exact hu) .i64 _ (by omega) (by rw [hn]; omega), hn, he]
  have e : ((k : Int) + 1).toNat = k + 1 := by omega
  rw [e]
  have hs : (Go.sizeOf 5).run Tryd.prog w = .ok 1 w := by
    obtain ⟨i0, hi, _, hz1, _⟩ := info_parts Tryd.info5
    simp [Go.sizeOf, typeInfo, hi, hz1]
  rw [hs]
  simp [slicedAt, Result.andThen, Addr.add]

set_option maxHeartbeats 1000000 in
set_option maxRecDepth 100000 in
theorem number_any (A : Option Addr) (cap n : Nat) (l : List UInt8) (w : World) (hb : Byt w A l) (hA : A = none → cap = 0) (hl : l.length + 10 ≤ 140737488355328) (hn : n < 18446744073709551616) :
    Calls Tryd.prog 18 #[.slice A l.length cap, .int .u64 n] w (Made w (l ++ num n)) := by
  have hB0 : Below w.heap.size w (w.alloc (Obj.cells #[Value.int IntKind.u8 0, Value.int IntKind.u8 0, Value.int IntKind.u8 0, Value.int IntKind.u8 0, Value.int IntKind.u8 0, Value.int IntKind.u8 0, Value.int IntKind.u8 0, Value.int IntKind.u8 0, Value.int IntKind.u8 0, Value.int IntKind.u8 0] 61)) := (Below.refl _ _).alloc (Nat.le_refl _) _
  have hG0 : Blk (w.alloc (Obj.cells #[Value.int IntKind.u8 0, Value.int IntKind.u8 0, Value.int IntKind.u8 0, Value.int IntKind.u8 0, Value.int IntKind.u8 0, Value.int IntKind.u8 0, Value.int IntKind.u8 0, Value.int IntKind.u8 0, Value.int IntKind.u8 0, Value.int IntKind.u8 0] 61)) w.heap.size 61 (gcells []) := Blk.born w 61 (gcells [])
  have HN : Hid (n < 18446744073709551616) := hn
  clear hn
  go_enter Tryd.func18, Tryd.ntmps18
  go_wp2
  go_step3
  go_wp2
  go_step3
  go_wp2
  generalize w.alloc (Obj.cells #[Value.int IntKind.u8 0, Value.int IntKind.u8 0, Value.int IntKind.u8 0, Value.int IntKind.u8 0, Value.int IntKind.u8 0, Value.int IntKind.u8 0, Value.int IntKind.u8 0, Value.int IntKind.u8 0, Value.int IntKind.u8 0, Value.int IntKind.u8 0] 61) = w0 at hB0 hG0
  go_loopg [1, 6] 10 (fun g x u wr => ∃ (d : List UInt8) (m : Nat), g = 10 - d.length ∧ d.length ≤ 9 ∧ u = .int .i64 d.length ∧ x = .int .u64 m ∧ m < room d.length ∧ num n = d ++ numF (9 - d.length) m ∧ Below w.heap.size w wr ∧ Blk wr w.heap.size 61 (gcells d))
  case atStart => exact ⟨[], n, rfl, Nat.zero_le _, rfl, rfl, by rw [List.length_nil, room_0]; exact HN.out, rfl, hB0, hG0⟩
  case round =>
    obtain ⟨d, m, rfl, hd, rfl, rfl, hm, hnum, hbel, hblk⟩ := hrel
    have hc := hblk.at_ d.length
    rw [gcells_get d (by omega)] at hc
    have hf := hblk.free d.length
    have HNum : Hid (num n = d ++ numF (9 - d.length) m) := hnum
    clear hnum
    have hsl := slice_groups w.heap.size d.length (by omega)
    have hst := hblk.store d.length (.int .u8 (bits .and .u64 (m : Int) 127 % 256))
    have hbel1 := hbel.setCell (p := ⟨w.heap.size, d.length, none⟩) (Nat.le_refl _) (.int .u8 (bits .and .u64 (m : Int) 127 % 256))
    by_cases h128 : m < 128
    · have hz : ((m : Int) / 128 == 0) = true := by simp; omega
      have e1 : (gcells d).set d.length (.int .u8 (bits .and .u64 (m : Int) 127 % 256)) = gcells (d ++ [UInt8.ofNat m]) := by
        rw [and127, show ((m % 128 : Nat) : Int) % 256 = ((UInt8.ofNat m).toNat : Int) by rw [ofNat_toNat _ (by omega)]; omega, gcells_set _ _ (by omega)]
      rw [e1] at hst
      have HE : Hid (num n = d ++ [UInt8.ofNat m]) := by show _ = _; rw [HNum.out, numF_small _ _ h128]
      have hbel2 := hbel1.alloc (by have := hbel1.size; exact this) (Obj.cells #[Value.slice A l.length cap, Value.slice (some ⟨w.heap.size, 0, none⟩) (d.length + 1) 10] 24)
      have hlt := lt_of_block hst
      have hX : (wr.setCell ⟨w.heap.size, d.length, none⟩ (.int .u8 (bits .and .u64 (m : Int) 127 % 256))).heap.size = wr.heap.size := by simp [World.setCell]
      have hst2 := hst.later (Obj.cells #[Value.slice A l.length cap, Value.slice (some ⟨w.heap.size, 0, none⟩) (d.length + 1) 10] 24)
      have hbX := Blk.born (wr.setCell ⟨w.heap.size, d.length, none⟩ (.int .u8 (bits .and .u64 (m : Int) 127 % 256))) 24 [Value.slice A l.length cap, Value.slice (some ⟨w.heap.size, 0, none⟩) (d.length + 1) 10]
      rw [hX] at hbX
      have hcon : Calls Tryd.prog 36 #[.slice (some ⟨wr.heap.size, 0, none⟩) 2 2] ((wr.setCell ⟨w.heap.size, d.length, none⟩ (.int .u8 (bits .and .u64 (m : Int) 127 % 256))).alloc (Obj.cells #[Value.slice A l.length cap, Value.slice (some ⟨w.heap.size, 0, none⟩) (d.length + 1) 10] 24)) (Made w (l ++ num n)) := by
        have := num_len n
        rw [HE.out] at this ⊢
        refine (concat_two wr.heap.size 2 l (d ++ [UInt8.ofNat m]) A (some ⟨w.heap.size, 0, none⟩) cap 10 (d.length + 1) _ (by simp) ?_ ?_ ?_ ?_ hA (by simp) (by omega)).mono fun e w' h => h.up hbel2
        · exact hbX.at_ 0
        · exact hbX.at_ 1
        · exact hb.keep hbel2
        · exact gcells_byt hst2
      clear hbel2 hlt hX hst2 hbX hst hbel1 hbel hblk hb e1
      go_wp2_with (go_at_call 36; refine hcon.mono ?_; rintro e w' ⟨v, rfl, h1, h2⟩)
      rw [Exit.noGoto_ret]
      go_ret
      exact ⟨v, rfl, h1, h2⟩
    · have hz : ((m : Int) / 128 == 0) = false := by simp; omega
      have hk9 : d.length < 9 := by
        rcases Nat.lt_or_ge d.length 9 with h | h
        · exact h
        · exact absurd (room_stop _ _ hd hm (by omega)) h128
      have hst2 := hst.store d.length (.int .u8 (bits .or .u8 (bits .and .u64 (m : Int) 127 % 256) 128))
      have hbel2 := hbel1.setCell (p := ⟨w.heap.size, d.length, none⟩) (Nat.le_refl _) (.int .u8 (bits .or .u8 (bits .and .u64 (m : Int) 127 % 256) 128))
      go_wp2_with fail
      go_roundg (10 - (d.length + 1))
      case measure => omega
      case rel =>
        have e1 : ((gcells d).set d.length (.int .u8 (bits .and .u64 (m : Int) 127 % 256))).set d.length (.int .u8 (bits .or .u8 (bits .and .u64 (m : Int) 127 % 256) 128)) = gcells (d ++ [UInt8.ofNat (m % 128 + 128)]) := by
          rw [List.set_set, and127, show ((m % 128 : Nat) : Int) % 256 = ((m % 128 : Nat) : Int) by omega, or128 _ (by omega), ← ofNat_toNat (m % 128 + 128) (by omega), gcells_set _ _ (by omega)]
        rw [e1] at hst2
        refine ⟨d ++ [UInt8.ofNat (m % 128 + 128)], m / 128, by simp, by simp; omega, by simp, by go_num, ?_, ?_, hbel2, hst2⟩
        · rw [List.length_append]; exact room_step _ _ hk9 hm
        · rw [HNum.out, show 9 - d.length = (9 - (d.length + 1)) + 1 by omega, numF_big _ _ h128]; simp
end Go.Proofs.YtfgmdaemcaamiaaDoor

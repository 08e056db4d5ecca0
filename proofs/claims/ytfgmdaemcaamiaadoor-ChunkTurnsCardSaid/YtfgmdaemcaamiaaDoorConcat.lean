/- The walks of slices.Grow (51) on a nil slice and of slices.Concat (43): the bytes of all parts, one behind the other, in a row of the call's own. -/
import Derived.Test.YtfgmdaemcaamiaaDoorMem
namespace Go.Proofs.YtfgmdaemcaamiaaDoor
open Go.RowKit

set_option maxHeartbeats 1000000 in
set_option maxRecDepth 100000 in
theorem grow_any (n : Nat) (w : World) (hn : n ≤ 140737488355328) : Calls Tryd.prog 60 #[.slice none 0 0, .int .i64 n] w (Made w []) := by
  by_cases h0 : n = 0
  · subst h0
    go_enter Tryd.func60, Tryd.ntmps60
    go_wp2
    go_ret
    exact ⟨_, rfl, Own.nil _ _, Below.refl _ _⟩
  · obtain ⟨i0, hi, hz0, hz1, hz2⟩ := info_parts Tryd.info5
    have hr : ∀ ty, (Builtin.append_ #[24, 3] ty #[.slice none 0 0, .int .i64 n]).run Tryd.prog w = .ok (.slice (some ⟨w.heap.size, 0, none⟩) n (grownCap w n 0 5)) (w.drew.alloc (.cells (Builtin.zeroCells (Value.int .u8 0).cells n ++ Builtin.zeroCells (Value.int .u8 0).cells (grownCap w n 0 5 - n)) 5)) :=
      fun ty => Lib.run_append_nil_zeros w 24 3 ty 5 i0 (.int .u8 0) .i64 .i64 Tryd.underlying24 Tryd.underlying3 hi hz0 n (by omega) (by omega) (by omega) (by rw [hz2]; omega)
    have hge := grownCap_ge w n 0 5
    have hle := grownCap_le_maxLen w n 0 5 (by unfold maxLen; omega)
    generalize hG : grownCap w n 0 5 = G at hr hge hle
    clear hG hi hz0 hz1 hz2
    have hpos : 0 < n := by omega
    have hsz : (Builtin.zeroCells (Value.int .u8 0).cells n ++ Builtin.zeroCells (Value.int .u8 0).cells (G - n)).size = G * 1 := by
      rw [Array.size_append, size_zeroCells, size_zeroCells]
      show n * 1 + (G - n) * 1 = G * 1
      omega
    have hb : Own (w.drew.alloc (.cells (Builtin.zeroCells (Value.int .u8 0).cells n ++ Builtin.zeroCells (Value.int .u8 0).cells (G - n)) 5)) w.heap.size (.slice (some ⟨w.heap.size, 0, none⟩) 0 G) [] :=
      World.ownsRow_made w.drew _ G (Nat.le_refl _) hle hsz
    have hw : Below w.heap.size w (w.drew.alloc (.cells (Builtin.zeroCells (Value.int .u8 0).cells n ++ Builtin.zeroCells (Value.int .u8 0).cells (G - n)) 5)) := (Below.refl _ _).drew.alloc (Nat.le_refl _) _
    generalize w.drew.alloc (.cells (Builtin.zeroCells (Value.int .u8 0).cells n ++ Builtin.zeroCells (Value.int .u8 0).cells (G - n)) 5) = w2 at hr hb hw
    have hle' : G ≤ 9223372036854775807 := by unfold maxLen at hle; omega
    clear hle hsz
    go_enter Tryd.func60, Tryd.ntmps60
    go_wp2_with (at_builtin; refine Lib.wpList_append_run _ rfl _ _ _ _ rfl _ _ rfl rfl _ _ (hr _) ?_)
    go_wp2
    go_ret
    exact ⟨_, rfl, hb, hw⟩

theorem len_snoc (ps : List (List UInt8)) (k : Nat) (h : k < ps.length) : (ps.take (k + 1)).flatten.length = (ps.take k).flatten.length + (ps[k]).length := by
  rw [flat_snoc ps k h, List.length_append]

set_option maxHeartbeats 1000000 in
set_option maxRecDepth 100000 in
theorem concat_any (A : Option Addr) (cap : Nat) (ps : List (List UInt8)) (w : World) (hp : Parts w A ps) (hl : ps.length ≤ maxLen) (hf : ps.flatten.length ≤ 140737488355328) :
    Calls Tryd.prog 36 #[.slice A ps.length cap] w (Made w ps.flatten) := by
  unfold maxLen at hl
  obtain ⟨i0, hi, hz0, hz1, hz2⟩ := info_parts Tryd.info5
  go_enter Tryd.func36, Tryd.ntmps36
  go_wp2
  go_loop [3, 11] (fun s i => ∃ k : Nat, k ≤ ps.length ∧ i = .int .i64 k ∧ ∃ m : Nat, m = (ps.take k).flatten.length ∧ s = .int .i64 m) (fun _ i => ps.length - (intOf i).toNat)
  case atStart => exact ⟨0, Nat.zero_le _, rfl, 0, rfl, rfl⟩
  case round =>
    obtain ⟨k, hk, rfl, m, hm, rfl⟩ := hrel
    have hmle := flat_le ps k
    by_cases hlt : k < ps.length
    · obtain ⟨b, o, a, c, rfl, hc, hb, hq, hn⟩ := hp k hlt
      unfold maxLen at hq
      have hle := flat_le ps (k + 1)
      have HS : Hid ((ps.take (k + 1)).flatten.length = m + (ps[k]).length) := by show _ = _; rw [len_snoc ps k hlt, hm]
      have hbd : m + (ps[k]).length ≤ 140737488355328 := by have := HS.out; omega
      have HM : Hid (m = (ps.take k).flatten.length) := hm
      clear hm hle hmle
      generalize ps[k] = q at hc hb hq HS hbd
      go_wp2
      go_round
      case rel => exact ⟨k + 1, by omega, by go_num, m + q.length, HS.out.symm, by go_num⟩
      case measure => simp [intOf]; omega
    · obtain rfl : k = ps.length := by omega
      have hmm : m ≤ 140737488355328 := by rw [hm]; omega
      have HM : Hid (m = ps.flatten.length) := by show _ = _; rw [hm, List.take_length]
      clear hm hmle
      go_wp2_with (go_at_call 60; refine (grow_any m w hmm).mono ?_; rintro e w1 ⟨v1, rfl, hown1, hbel1⟩)
      go_loopw [6, 27] (fun v i wr => ∃ k : Nat, k ≤ ps.length ∧ i = .int .i64 k ∧ Own wr w.heap.size v (ps.take k).flatten ∧ Below w.heap.size w wr) (fun _ i _ => ps.length - (intOf i).toNat)
      case atStart => exact ⟨0, Nat.zero_le _, rfl, hown1, hbel1⟩
      case round =>
        obtain ⟨k, hk, rfl, hown, hbel⟩ := hrel
        by_cases hlt : k < ps.length
        · obtain ⟨b, o, a, c, rfl, hc, hb, hq, hn⟩ := (hp.keep hbel) k hlt
          unfold maxLen at hq
          have hle := flat_le ps (k + 1)
          have HL := len_snoc ps k hlt
          have HS : Hid ((ps.take (k + 1)).flatten = (ps.take k).flatten ++ ps[k]) := flat_snoc ps k hlt
          have hbd : (ps.take k).flatten.length + (ps[k]).length ≤ 140737488355328 := by omega
          clear hle HL
          generalize ps[k] = q at hc hb hq HS hbd
          generalize (ps.take k).flatten = d at HS hown hbd
          have hbase := hbel.size
          cases a with
          | none =>
            obtain rfl := hb.nil
            obtain rfl := hn rfl
            go_wp2_with (at_builtin; refine wpList_append_own_none rfl _ _ 24 rfl w.heap.size 5 i0 1 Tryd.underlying24 hi _ d.length (u8s d) rfl hown rfl ?_)
            go_roundw
            case rel => exact ⟨k + 1, by omega, by go_num, by rw [HS.out, List.append_nil]; exact hown, hbel⟩
            case measure => simp [intOf]; omega
          | some ad =>
            go_wp2_with (at_builtin; refine wpList_append_own _ rfl _ _ 24 rfl w.heap.size 5 i0 (.int .u8 0) 1 1 Tryd.underlying24 hi hz0 hz1 hz2 rfl (by decide) _ d.length (u8s d) rfl hown ad q.length c (u8s q) rfl (by rw [u8s_len]; omega) hb.news (u8s_one q) (by unfold maxLen; omega) (by omega) hbase ?_)
            intro v' w' hown' hgrow _
            obtain ⟨ho2, hb2⟩ := own_step hbel hown hown' hgrow
            clear hown' hgrow hown hbase
            go_wp2
            go_roundw
            case rel => exact ⟨k + 1, by omega, by go_num, by rw [HS.out]; exact ho2, hb2⟩
            case measure => simp [intOf]; omega
        · obtain rfl : k = ps.length := by omega
          go_wp2
          go_ret
          exact ⟨_, rfl, by simpa using hown, hbel⟩

/-- Concat of two parts that lie side by side. -/
theorem concat_two (X cap : Nat) (l d : List UInt8) (A A2 : Option Addr) (c c2 m : Nat) (w : World) (hm : m = d.length) (h0 : w.cell? ⟨X, 0, none⟩ = some (.slice A l.length c)) (h1 : w.cell? ⟨X, 1, none⟩ = some (.slice A2 m c2))
    (b0 : Byt w A l) (b1 : Byt w A2 d) (n0 : A = none → c = 0) (n1 : A2 = none → c2 = 0) (hl : l.length + d.length ≤ 140737488355328) :
    Calls Tryd.prog 36 #[.slice (some ⟨X, 0, none⟩) 2 cap] w (Made w (l ++ d)) := by
  subst hm
  have hp : Parts w (some ⟨X, 0, none⟩) [l, d] := by
    intro k hk
    match k, hk with
    | 0, _ => exact ⟨X, 0, A, c, rfl, h0, b0, by unfold maxLen; show l.length ≤ _; omega, n0⟩
    | 1, _ => exact ⟨X, 0, A2, c2, rfl, h1, b1, by unfold maxLen; show d.length ≤ _; omega, n1⟩
  have h := concat_any (some ⟨X, 0, none⟩) cap [l, d] w hp (by unfold maxLen; simp) (by simpa using hl)
  have e : [l, d].flatten = l ++ d := by simp
  rw [e] at h
  exact h
end Go.Proofs.YtfgmdaemcaamiaaDoor

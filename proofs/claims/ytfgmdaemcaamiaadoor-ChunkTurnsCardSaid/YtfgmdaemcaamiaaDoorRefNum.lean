/- The walk of the document's Number (20) and Signed (24). -/
import Derived.Test.YtfgmdaemcaamiaaDoorSigned
import Derived.Test.YtfgmdaemcaamiaaDoorLaws
import Derived.Deep.DeepCutAuto
namespace Go.Proofs.YtfgmdaemcaamiaaDoor
open Go.RowKit
set_option linter.unusedVariables false

set_option maxHeartbeats 2000000 in
set_option maxRecDepth 100000 in
theorem refnumber_any (A : Option Addr) (cap n : Nat) (l : List UInt8) (w : World) (hb : Byt w A l) (hA : A = none → cap = 0) (hl : l.length + 10 ≤ 140737488355328) (hn : n < 18446744073709551616) :
    Calls Tryd.prog 25 #[.slice A l.length cap, .int .u64 n] w (Made w (l ++ num n)) := by
  have HN : Hid (n < 18446744073709551616) := hn
  clear hn
  have hbel0 := Below.refl w.heap.size w
  go_enter Tryd.func25, Tryd.ntmps25
  go_upto_region 2 with (first | (at_make; refine mk_byt w rfl _ _ rfl _ (l.length + 10) rfl rfl (by omega) (by omega) hbel0 ?_; intro w1 hown1 hbel1) | (at_builtin; refine app_byt w rfl _ _ rfl _ [] rfl hown1 hbel1 A l.length cap l rfl rfl (hb.keep hbel1) hA (by simp; omega) ?_; intro v2 w2 hown2 hbel2 _))
  rw [List.nil_append] at hown2
  clear hown1 hbel1 hbel0
  go_loopw [1, 5] (fun x v wr => ∃ (d : List UInt8) (m : Nat), x = .int .u64 m ∧ m < room d.length ∧ num n = d ++ numF (9 - d.length) m ∧ d.length ≤ 9 ∧ Own wr w.heap.size v (l ++ d) ∧ Below w.heap.size w wr) (fun x _ _ => (intOf x).toNat)
  case atStart => exact ⟨[], n, rfl, by rw [List.length_nil, room_0]; exact HN.out, rfl, Nat.zero_le _, by simpa using hown2, hbel2⟩
  case round =>
    obtain ⟨d, m, rfl, hm, hnum, hd, hown, hbel⟩ := hrel
    have HM : Hid (m < room d.length) := hm
    have HNum : Hid (num n = d ++ numF (9 - d.length) m) := hnum
    clear hm hnum
    by_cases h128 : m < 128
    · have hlt : ¬ (127 : Int) < (m : Int) := by omega
      have hv : ((m : Int)) = ((UInt8.ofNat m).toNat : Int) := (ofNat_toNat m (by omega)).symm
      have HV : Hid _ := hv
      have hlen : (l ++ d).length ≤ 140737488355328 := by simp; omega
      clear hv
      go_wp2_with (at_builtin; refine app_byt w rfl _ _ rfl _ (l ++ d) rfl (hown.alloc _) (hbel.alloc hbel.size _) (some ⟨wr.heap.size, 0, none⟩) 1 1 [UInt8.ofNat m] rfl rfl (byt_one wr (UInt8.ofNat m) _ HV.out) (by simp) (by simp at hlen ⊢; omega) ?_; intro v3 w3 hown3 hbel3 _)
      go_ret
      refine ⟨_, rfl, ?_, hbel3⟩
      rw [HNum.out, numF_small _ _ h128, ← List.append_assoc]
      exact hown3
    · have hlt : (127 : Int) < (m : Int) := by omega
      have HV : Hid ((m : Int) % 128 + 128 = ((UInt8.ofNat (m % 128 + 128)).toNat : Int)) := by show _ = _; rw [ofNat_toNat (m % 128 + 128) (by omega)]; omega
      have HW : Hid (IntKind.u64.wrap ((m : Int) / 128) = ((m / 128 : Nat) : Int)) := by
        show _ = _
        have h1 := HM.out
        have h2 := room_le d.length
        rw [IntKind.wrap_u64]; omega
      have hk9 : d.length < 9 := by
        rcases Nat.lt_or_ge d.length 9 with h | h
        · exact h
        · exact absurd (room_stop _ _ hd HM.out (by omega)) h128
      go_wp2_with (at_builtin; refine app_byt w rfl _ _ rfl _ (l ++ d) rfl (hown.alloc _) (hbel.alloc hbel.size _) (some ⟨wr.heap.size, 0, none⟩) 1 1 [UInt8.ofNat (m % 128 + 128)] rfl rfl (byt_one wr (UInt8.ofNat (m % 128 + 128)) _ HV.out) (by simp) (by simp; omega) ?_; intro v3 w3 hown3 hbel3 _)
      go_roundw
      case rel =>
        refine ⟨d ++ [UInt8.ofNat (m % 128 + 128)], m / 128, by rw [HW.out], ?_, ?_, by simp; omega, ?_, hbel3⟩
        · rw [List.length_append]; exact room_step _ _ hk9 HM.out
        · rw [HNum.out, show 9 - d.length = (9 - (d.length + 1)) + 1 by omega, numF_big _ _ h128]; simp
        · rw [← List.append_assoc]; exact hown3
      case measure =>
        have e : (intOf (.int .u64 (IntKind.u64.wrap ((m : Int) / 128)))).toNat = m / 128 := by rw [HW.out]; simp only [intOf]; omega
        have e2 : (intOf (.int .u64 (m : Int))).toNat = m := by simp only [intOf]; omega
        rw [e, e2]; omega

set_option maxHeartbeats 1000000 in
set_option maxRecDepth 100000 in
theorem refsigned_any (A : Option Addr) (cap : Nat) (s : Int) (l : List UInt8) (w : World) (hb : Byt w A l) (hA : A = none → cap = 0) (hl : l.length + 10 ≤ 140737488355328) (h0 : -9223372036854775808 ≤ s) (h1 : s ≤ 9223372036854775807) :
    Calls Tryd.prog 84 #[.slice A l.length cap, .int .i64 s] w (Made w (l ++ num (zig s))) := by
  have hlt := zig_lt s h0 h1
  have hcall := refnumber_any A cap (zig s) l w hb hA hl hlt
  have hz := zig_any s w h0 h1
  clear hlt h0 h1
  go_enter Tryd.func84, Tryd.ntmps84
  go_wp2_with (first | (go_at_call 102; refine hz.mono ?_; rintro e w' ⟨rfl, rfl⟩) | (go_at_call 25; refine hcall.mono ?_; rintro e w' ⟨v, rfl, h1, h2⟩))
  go_ret
  exact ⟨v, rfl, h1, h2⟩
end Go.Proofs.YtfgmdaemcaamiaaDoor

/- The document's IsName. -/
import Derived.Test.YtabnjiepmhblaaaDoorScA
namespace Go.Proofs.YtabnjiepmhblaaaDoor
open Go.RowKit
set_option linter.unusedVariables false

set_option maxHeartbeats 4000000 in
theorem refisname_any (s : ByteArray) (w : World) (hs : s.size ≤ 4611686018427387904) : Calls Tryd.prog 40 #[.string s] w fun e w' => e = .returned (.bool (nameL s.data.toList)) ∧ w = w' := by
  obtain ⟨r, hr⟩ : ∃ r, nameL s.data.toList = r := ⟨_, rfl⟩
  rw [hr]
  have HR := Lib.hid hr
  clear hr
  go_enter Tryd.func40, Tryd.ntmps40
  go_wp2
  go_loopw [3] (fun i wr => ∃ k : Nat, k ≤ s.size ∧ i = .int .i64 k ∧ (∀ j (hj : j < s.size), j < k → nameC j s[j] = true) ∧ wr = w) (fun i _ => s.size - (intOf i).toNat)
  case atStart => exact ⟨0, by omega, rfl, fun j _ h => by omega, rfl⟩
  case round =>
    obtain ⟨k, hk, rfl, hall, rfl⟩ := hrel
    have HALL := Lib.hid hall
    clear hall
    by_cases hlt : k < s.size
    · have HNX : Hid (nameC k (s[k]'hlt) = true → ∀ j (hj : j < s.size), j < k + 1 → nameC j s[j] = true) := fun hx j hj h => by
        by_cases e : j = k
        · subst e; exact hx
        · exact HALL.out j hj (by omega)
      have HBAD : Hid (nameC k (s[k]'hlt) = false → nameL s.data.toList = false) := nameL_false_of k hlt
      have HK : Hid (k < s.size) := hlt
      have hget : s[k]? = some (s[k]'hlt) := getElem?_pos s k hlt
      obtain ⟨c, hc⟩ : ∃ c, s[k]'hlt = c := ⟨_, rfl⟩
      rw [hc] at HNX HBAD hget
      have hidx : ∀ W : World, (Instr.index 9 (.string s) (.int .i64 (k : Int))).run Tryd.prog W = .ok (.int .u8 (c.toNat : Int)) W := fun W => by go_simp
      clear hc
      have hc8 := c.toNat_lt
      by_cases hl : 97 ≤ c.toNat ∧ c.toNat ≤ 122
      · have HN : Hid (nameC k c = true) := by show nameC k c = true; unfold nameC; rw [show letC c = true from decide_eq_true hl]; rfl
        have t0 : (97 : Int) ≤ (c.toNat : Int) := by omega
        have t1 : (c.toNat : Int) ≤ 122 := by omega
        have t2 : (48 : Int) ≤ (c.toNat : Int) := by omega
        have t3 : ¬ (c.toNat : Int) ≤ 57 := by omega
        have t4 : ((c.toNat : Int) == 95) = false := by simp; omega
        clear hl
        go_wp2
        go_roundw
        case rel => exact ⟨k + 1, HK.out, by go_num, HNX.out HN.out, by first | rfl | trivial⟩
        case measure => have := HK.out; simp [intOf]; omega
      have hlet : letC c = false := decide_eq_false hl
      by_cases hd : 48 ≤ c.toNat ∧ c.toNat ≤ 57
      · have n1 : ¬ (97 : Int) ≤ (c.toNat : Int) := by omega
        have m0 : (48 : Int) ≤ (c.toNat : Int) := by omega
        have m1 : (c.toNat : Int) ≤ 57 := by omega
        by_cases hk0 : k = 0
        · have HN : Hid (r = false) := by show r = false; rw [← HR.out]; refine HBAD.out ?_; subst hk0; unfold nameC; rw [hlet]; rfl
          have k1 : ((k : Int) == 0) = true := by simp; omega
          clear hlet hl hd hk0
          go_wp2
          go_ret
          exact ⟨congrArg (fun r => Ending.returned (Value.bool r)) HN.out.symm, rfl⟩
        · have HN : Hid (nameC k c = true) := by show nameC k c = true; unfold nameC; rw [show digC c = true from decide_eq_true hd, decide_eq_true hk0]; simp
          have k1 : ((k : Int) == 0) = false := by simp; omega
          clear hlet hl hd hk0
          go_wp2
          go_roundw
          case rel => exact ⟨k + 1, HK.out, by go_num, HNX.out HN.out, by first | rfl | trivial⟩
          case measure => have := HK.out; simp [intOf]; omega
      by_cases hu : c.toNat = 95
      · have n1 : ¬ (97 : Int) ≤ (c.toNat : Int) := by omega
        have m0 : (48 : Int) ≤ (c.toNat : Int) := by omega
        have m1 : ¬ (c.toNat : Int) ≤ 57 := by omega
        have m2 : ((c.toNat : Int) == 95) = true := by simp; omega
        by_cases hk0 : k = 0
        · have HN : Hid (r = false) := by show r = false; rw [← HR.out]; refine HBAD.out ?_; subst hk0; unfold nameC; rw [hlet]; rfl
          have k1 : ((k : Int) == 0) = true := by simp; omega
          clear hlet hl hu hk0
          go_wp2
          go_ret
          exact ⟨congrArg (fun r => Ending.returned (Value.bool r)) HN.out.symm, rfl⟩
        · have HN : Hid (nameC k c = true) := by show nameC k c = true; unfold nameC; rw [decide_eq_true hu, decide_eq_true hk0]; simp
          have k1 : ((k : Int) == 0) = false := by simp; omega
          clear hlet hl hu hk0
          go_wp2
          go_roundw
          case rel => exact ⟨k + 1, HK.out, by go_num, HNX.out HN.out, by first | rfl | trivial⟩
          case measure => have := HK.out; simp [intOf]; omega
      have HN : Hid (r = false) := by show r = false; rw [← HR.out]; refine HBAD.out ?_; unfold nameC; rw [hlet, show digC c = false from decide_eq_false hd, decide_eq_false hu]; simp
      have u1 : ((c.toNat : Int) == 95) = false := by simp; omega
      by_cases h97 : 97 ≤ c.toNat
      · have m0 : (97 : Int) ≤ (c.toNat : Int) := by omega
        have m1 : ¬ (c.toNat : Int) ≤ 122 := by omega
        have m2 : (48 : Int) ≤ (c.toNat : Int) := by omega
        have m3 : ¬ (c.toNat : Int) ≤ 57 := by omega
        clear hlet hl hd hu h97
        go_wp2
        go_ret
        exact ⟨congrArg (fun r => Ending.returned (Value.bool r)) HN.out.symm, rfl⟩
      · have m0 : ¬ (97 : Int) ≤ (c.toNat : Int) := by omega
        by_cases h48 : 48 ≤ c.toNat
        · have m1 : (48 : Int) ≤ (c.toNat : Int) := by omega
          have m2 : ¬ (c.toNat : Int) ≤ 57 := by omega
          clear hlet hl hd hu h97 h48
          go_wp2
          go_ret
          exact ⟨congrArg (fun r => Ending.returned (Value.bool r)) HN.out.symm, rfl⟩
        · have m1 : ¬ (48 : Int) ≤ (c.toNat : Int) := by omega
          clear hlet hl hd hu h97 h48
          go_wp2
          go_ret
          exact ⟨congrArg (fun r => Ending.returned (Value.bool r)) HN.out.symm, rfl⟩
    · obtain rfl : k = s.size := by omega
      have HN : Hid (r = decide (1 ≤ s.size ∧ s.size ≤ 24)) := by
        show r = _
        rw [← HR.out]
        by_cases h : 1 ≤ s.size ∧ s.size ≤ 24
        · rw [decide_eq_true h]; exact nameL_true_of h.1 h.2 (fun j hj => HALL.out j hj hj)
        · rw [decide_eq_false h]; exact nameL_false_len h
      by_cases h1 : 1 ≤ s.size
      · have i1 : (1 : Int) ≤ (s.size : Int) := by omega
        by_cases h2 : s.size ≤ 24
        · have i2 : (s.size : Int) ≤ 24 := by omega
          rw [decide_eq_true ⟨h1, h2⟩] at HN
          clear h1 h2
          go_wp2
          go_ret
          exact ⟨congrArg (fun r => Ending.returned (Value.bool r)) HN.out.symm, rfl⟩
        · have i2 : ¬ (s.size : Int) ≤ 24 := by omega
          rw [decide_eq_false (fun h => h2 h.2)] at HN
          clear h1 h2
          go_wp2
          go_ret
          exact ⟨congrArg (fun r => Ending.returned (Value.bool r)) HN.out.symm, rfl⟩
      · have i1 : ¬ (1 : Int) ≤ (s.size : Int) := by omega
        rw [decide_eq_false (fun h => h1 h.1)] at HN
        clear h1
        go_wp2
        go_ret
        exact ⟨congrArg (fun r => Ending.returned (Value.bool r)) HN.out.symm, rfl⟩
end Go.Proofs.YtabnjiepmhblaaaDoor

/- Names of columns and kinds: isLetter, isKind, IsName, and the document's IsName. -/
import Derived.Test.YtabnjiepmhblaaaDoorJ1
import Derived.Test.YtabnjiepmhblaaaDoorJ1
import Derived.Lib.Hide
namespace Go.Proofs.YtabnjiepmhblaaaDoor
open Go.RowKit
set_option linter.unusedVariables false

theorem isletter_any (c : UInt8) (w : World) : Calls Tryd.prog 45 #[.int .u8 (c.toNat : Int)] w fun e w' => e = .returned (.bool (letC c)) ∧ w = w' := by
  have hc := c.toNat_lt
  by_cases h1 : 97 ≤ c.toNat
  · by_cases h2 : c.toNat ≤ 122
    · rw [show letC c = true from decide_eq_true ⟨h1, h2⟩]
      have t1 : (97 : Int) ≤ (c.toNat : Int) := by omega
      have t2 : (c.toNat : Int) ≤ 122 := by omega
      clear h1 h2
      go_enter Tryd.func45, Tryd.ntmps45
      go_wp2
      go_ret
      exact ⟨rfl, rfl⟩
    · rw [show letC c = false from decide_eq_false (fun h => h2 h.2)]
      have t1 : (97 : Int) ≤ (c.toNat : Int) := by omega
      have t2 : ¬ (c.toNat : Int) ≤ 122 := by omega
      clear h1 h2
      go_enter Tryd.func45, Tryd.ntmps45
      go_wp2
      go_ret
      exact ⟨rfl, rfl⟩
  · rw [show letC c = false from decide_eq_false (fun h => h1 h.1)]
    have t1 : ¬ (97 : Int) ≤ (c.toNat : Int) := by omega
    clear h1
    go_enter Tryd.func45, Tryd.ntmps45
    go_wp2
    go_ret
    exact ⟨rfl, rfl⟩
def kindB (k : Int) : Bool := decide (1 ≤ k ∧ k ≤ 3)
theorem iskind_any (k : Int) (w : World) : Calls Tryd.prog 29 #[.int .i64 k] w fun e w' => e = .returned (.bool (kindB k)) ∧ w = w' := by
  by_cases h1 : k = 1
  · subst h1
    go_enter Tryd.func29, Tryd.ntmps29
    go_wp2
    go_ret
    exact ⟨rfl, rfl⟩
  by_cases h2 : k = 2
  · subst h2
    go_enter Tryd.func29, Tryd.ntmps29
    go_wp2
    go_ret
    exact ⟨rfl, rfl⟩
  by_cases h3 : k = 3
  · subst h3
    go_enter Tryd.func29, Tryd.ntmps29
    go_wp2
    go_ret
    exact ⟨rfl, rfl⟩
  rw [show kindB k = false from decide_eq_false (fun h => by omega)]
  have b1 : (k == 1) = false := by rw [beq_eq_false_iff_ne]; exact h1
  have b2 : (k == 2) = false := by rw [beq_eq_false_iff_ne]; exact h2
  have b3 : (k == 3) = false := by rw [beq_eq_false_iff_ne]; exact h3
  go_enter Tryd.func29, Tryd.ntmps29
  go_wp2
  go_ret
  exact ⟨rfl, rfl⟩

theorem nameL_get {s : ByteArray} (k : Nat) (h : k < s.size) : s.data.toList[k]'(by simpa using h) = s[k] := rfl
theorem sz_list (s : ByteArray) : s.data.toList.length = s.size := by rw [Array.length_toList]; rfl
theorem nameL_false_of {s : ByteArray} (k : Nat) (h : k < s.size) (hc : nameC k s[k] = false) : nameL s.data.toList = false := by
  unfold nameL
  rw [Bool.and_eq_false_iff]
  right
  rw [← Bool.not_eq_true, nameAll_iff]
  intro hall
  have := hall k (by rw [sz_list]; exact h)
  rw [Nat.zero_add, nameL_get k h, hc] at this
  cases this
theorem nameL_true_of {s : ByteArray} (h1 : 1 ≤ s.size) (h2 : s.size ≤ 24) (h : ∀ k (hk : k < s.size), nameC k s[k] = true) : nameL s.data.toList = true := by
  unfold nameL
  rw [Bool.and_eq_true, decide_eq_true_iff, nameAll_iff]
  refine ⟨by rw [sz_list]; exact ⟨h1, h2⟩, fun k hk => ?_⟩
  rw [Nat.zero_add, nameL_get k (by rw [sz_list] at hk; exact hk)]
  exact h k (by rw [sz_list] at hk; exact hk)
theorem nameL_false_len {s : ByteArray} (h : ¬ (1 ≤ s.size ∧ s.size ≤ 24)) : nameL s.data.toList = false := by
  unfold nameL
  rw [sz_list, decide_eq_false h]
  rfl

set_option maxHeartbeats 2000000 in
theorem isname_any (s : ByteArray) (w : World) : Calls Tryd.prog 28 #[.string s] w fun e w' => e = .returned (.bool (nameL s.data.toList)) ∧ w = w' := by
  have htl : s.toList.length = s.size := by rw [ByteArray.toList_eq, sz_list]
  by_cases h0 : s.size = 0
  · rw [nameL_false_len (by omega)]
    have e0 : s.toList = [] := List.length_eq_zero_iff.1 (by omega)
    go_enter Tryd.func28, Tryd.ntmps28
    go_wp2
    go_ret
    exact ⟨rfl, rfl⟩
  have e0 : s.toList.isEmpty = false := by
    cases h : s.toList with
    | nil => rw [h] at htl; simp at htl; omega
    | cons a t => rfl
  have e1 : (s.toList == []) = false := by
    cases h : s.toList with
    | nil => rw [h] at e0; cases e0
    | cons a t => rfl
  by_cases h24 : s.size ≤ 24
  · have i24 : ¬ (24 : Int) < (s.size : Int) := by omega
    have h0lt : 0 < s.size := by omega
    by_cases hl : letC (s[0]'h0lt) = true
    · obtain ⟨r, hr⟩ : ∃ r, nameL s.data.toList = r := ⟨_, rfl⟩
      rw [hr]
      have HR := Lib.hid hr
      have HL := Lib.hid hl
      clear hr htl hl
      have hlet := fun c W => isletter_any c W
      go_enter Tryd.func28, Tryd.ntmps28
      go_wp2_with (go_at_call 45; refine (hlet _ _).mono ?_; rintro e w1 ⟨rfl, rfl⟩; rw [HL.out])
      go_loopw [20] (fun i wr => ∃ k : Nat, k ≤ s.size ∧ i = .int .i64 k ∧ (∀ j (hj : j < s.size), j < k → nameC j s[j] = true) ∧ wr = w) (fun i _ => s.size - (intOf i).toNat)
      case atStart => exact ⟨0, by omega, rfl, fun j _ h => by omega, rfl⟩
      case round =>
        obtain ⟨k, hk, rfl, hall, rfl⟩ := hrel
        have HALL := Lib.hid hall
        clear hall
        by_cases hlt : k < s.size
        · have HNX : Hid (nameC k (s[k]'hlt) = true → ∀ j (hj : j < s.size), j < k + 1 → nameC j s[j] = true) := fun hx j hj h => by
            by_cases e : j = k
            · subst e; exact hx
            · exact HALL.out j hj (by omega)
          have HBAD : Hid (nameC k (s[k]'hlt) = false → nameL s.data.toList = false) := nameL_false_of k hlt
          have HZ : Hid (k = 0 → letC (s[k]'hlt) = true) := fun e => by subst e; exact HL.out
          have HK : Hid (k < s.size) := hlt
          have hget : s[k]? = some (s[k]'hlt) := getElem?_pos s k hlt
          obtain ⟨c, hc⟩ : ∃ c, s[k]'hlt = c := ⟨_, rfl⟩
          rw [hc] at HNX HBAD HZ hget
          have hidx : ∀ W : World, (Instr.index 9 (.string s) (.int .i64 (k : Int))).run Tryd.prog W = .ok (.int .u8 (c.toNat : Int)) W := fun W => by go_simp
          clear hc
          have hc8 := c.toNat_lt
          by_cases hl : letC c = true
          · have HN : Hid (nameC k c = true) := by show nameC k c = true; unfold nameC; rw [hl]; rfl
            go_wp2_with (go_at_call 45; refine (isletter_any c _).mono ?_; rintro e w1 ⟨rfl, rfl⟩; rw [hl])
            go_roundw
            case rel => exact ⟨k + 1, HK.out, by go_num, HNX.out HN.out, by first | rfl | trivial⟩
            case measure => have := HK.out; simp [intOf]; omega
          · rw [Bool.not_eq_true] at hl
            have hk0 : k ≠ 0 := fun e => by have := HZ.out e; rw [hl] at this; cases this
            by_cases hd : 48 ≤ c.toNat ∧ c.toNat ≤ 57
            · have HN : Hid (nameC k c = true) := by show nameC k c = true; unfold nameC; rw [hl, show digC c = true from decide_eq_true hd, decide_eq_true hk0]; rfl
              have d1 : ¬ (c.toNat : Int) < 48 := by omega
              have d2 : ¬ (57 : Int) < (c.toNat : Int) := by omega
              clear hd
              go_wp2_with (go_at_call 45; refine (isletter_any c _).mono ?_; rintro e w1 ⟨rfl, rfl⟩; rw [hl])
              go_roundw
              case rel => exact ⟨k + 1, HK.out, by go_num, HNX.out HN.out, by first | rfl | trivial⟩
              case measure => have := HK.out; simp [intOf]; omega
            · by_cases hu : c.toNat = 95
              · have HN : Hid (nameC k c = true) := by show nameC k c = true; unfold nameC; rw [decide_eq_true hu, decide_eq_true hk0]; simp
                have d1 : ¬ (c.toNat : Int) < 48 := by omega
                have d2 : (57 : Int) < (c.toNat : Int) := by omega
                have d3 : ((c.toNat : Int) == 95) = true := by simp; omega
                have d4 : ((c.toNat : Int) != 95) = false := by simp; omega
                clear hd hu
                go_wp2_with (go_at_call 45; refine (isletter_any c _).mono ?_; rintro e w1 ⟨rfl, rfl⟩; rw [hl])
                go_roundw
                case rel => exact ⟨k + 1, HK.out, by go_num, HNX.out HN.out, by first | rfl | trivial⟩
                case measure => have := HK.out; simp [intOf]; omega
              · have hbad : nameC k c = false := by unfold nameC; rw [hl, show digC c = false from decide_eq_false hd, decide_eq_false hu]; simp
                have HN : Hid (r = false) := by show r = false; rw [← HR.out]; exact HBAD.out hbad
                have d3 : ((c.toNat : Int) == 95) = false := by simp; omega
                have d4 : ((c.toNat : Int) != 95) = true := by simp; omega
                have d5 : ¬ (c.toNat : Int) = 95 := by omega
                by_cases h48 : c.toNat < 48
                · have d1 : (c.toNat : Int) < 48 := by omega
                  clear hd hu hbad h48
                  go_wp2_with (go_at_call 45; refine (isletter_any c _).mono ?_; rintro e w1 ⟨rfl, rfl⟩; rw [hl])
                  go_ret
                  exact ⟨congrArg (fun r => Ending.returned (Value.bool r)) HN.out.symm, rfl⟩
                · have d1 : ¬ (c.toNat : Int) < 48 := by omega
                  have d2 : (57 : Int) < (c.toNat : Int) := by omega
                  clear hd hu hbad h48
                  go_wp2_with (go_at_call 45; refine (isletter_any c _).mono ?_; rintro e w1 ⟨rfl, rfl⟩; rw [hl])
                  go_ret
                  exact ⟨congrArg (fun r => Ending.returned (Value.bool r)) HN.out.symm, rfl⟩
        · obtain rfl : k = s.size := by omega
          have HN : Hid (r = true) := by show r = true; rw [← HR.out]; exact nameL_true_of (by omega) h24 (fun j hj => HALL.out j hj hj)
          go_wp2
          go_ret
          exact ⟨congrArg (fun r => Ending.returned (Value.bool r)) HN.out.symm, rfl⟩
    · have hbad := nameL_false_of 0 h0lt (by unfold nameC; rw [Bool.not_eq_true] at hl; rw [hl]; rfl)
      rw [hbad]
      rw [Bool.not_eq_true] at hl
      have HL := Lib.hid hl
      clear hl hbad htl
      have hlet := fun c W => isletter_any c W
      go_enter Tryd.func28, Tryd.ntmps28
      go_wp2_with (go_at_call 45; refine (hlet _ _).mono ?_; rintro e w1 ⟨rfl, rfl⟩; rw [HL.out])
      go_ret
      exact ⟨rfl, rfl⟩
  · have i24 : (24 : Int) < (s.size : Int) := by omega
    rw [nameL_false_len (by omega)]
    go_enter Tryd.func28, Tryd.ntmps28
    go_wp2
    go_ret
    exact ⟨rfl, rfl⟩
end Go.Proofs.YtabnjiepmhblaaaDoor

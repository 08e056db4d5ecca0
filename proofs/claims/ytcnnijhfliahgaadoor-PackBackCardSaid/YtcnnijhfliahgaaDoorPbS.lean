/- The document's Same (22): two lists of numbers. -/
import Derived.Test.YtcnnijhfliahgaaDoorPaA
import Derived.RegionTactic
import Derived.ChangeAlike
namespace Go.Proofs.YtcnnijhfliahgaaDoor
open Go.RowKit
set_option linter.unusedVariables false

theorem take_ne {l m : List W64} {k : Nat} (h1 : k < l.length) (h2 : k < m.length) (h : ¬ (l[k]).toNat = (m[k]).toNat) : l ≠ m := by
  rintro rfl
  exact h rfl
set_option maxRecDepth 100000 in
set_option maxHeartbeats 2000000 in
theorem same_any (A B : Option Addr) (c1 c2 : Nat) (l m : List W64) (W : World) (hl : Num W A l) (hm : Num W B m) (hn : l.length ≤ 4611686018427387904) (hn2 : m.length ≤ 4611686018427387904) :
    Calls Tryd.prog 22 #[.slice A l.length c1, .slice B m.length c2] W fun e W' => e = .returned (.bool (decide (l = m))) ∧ Below W.heap.size W W' := by
  have HL := Lib.hid hl
  have HM := Lib.hid hm
  clear hl hm
  by_cases hlen : l.length = m.length
  · have HLEN := Lib.hid hlen
    obtain ⟨n, hnn⟩ : ∃ n, l.length = n := ⟨_, rfl⟩
    have hmn : m.length = n := by omega
    rw [hnn, hmn]
    have HNN := Lib.hid hnn
    have HMN := Lib.hid hmn
    rw [hnn] at hn
    obtain ⟨r, hr⟩ : ∃ r, decide (l = m) = r := ⟨_, rfl⟩
    rw [hr]
    have HR := Lib.hid hr
    clear hlen hnn hmn hn2 hr
    go_enter Tryd.func22, Tryd.ntmps22
    go_wp2
    go_loopw [5] (fun i wr => ∃ k : Nat, k ≤ n ∧ i = .int .i64 k ∧ l.take k = m.take k ∧ Below W.heap.size W wr) (fun i _ => n - (intOf i).toNat)
    case atStart => exact ⟨0, by omega, rfl, rfl, Below.refl _ _⟩
    case round =>
      obtain ⟨k, hk, rfl, heq, hb⟩ := hrel
      have HB := Lib.hid hb
      have HEQ := Lib.hid heq
      clear hb heq
      by_cases hlt : k < n
      · have k1 : k < l.length := by rw [HNN.out]; exact hlt
        have k2 : k < m.length := by rw [HMN.out]; exact hlt
        obtain ⟨b1, o1, rfl, hc1⟩ := HL.out k k1
        obtain ⟨b2, o2, rfl, hc2⟩ := HM.out k k2
        have hd1 := (HB.out.cell (p := ⟨b1, o1 + k, none⟩) (World.block_lt_of_cell? W _ hc1)).trans hc1
        have hd2 := (HB.out.cell (p := ⟨b2, o2 + k, none⟩) (World.block_lt_of_cell? W _ hc2)).trans hc2
        have HS : Hid ((l[k]).toNat = (m[k]).toNat → l.take (k + 1) = m.take (k + 1)) := fun h => by
          rw [List.take_succ_eq_append_getElem k1, List.take_succ_eq_append_getElem k2, HEQ.out, BitVec.eq_of_toNat_eq h]
        have HNE : Hid (¬ (l[k]).toNat = (m[k]).toNat → l ≠ m) := take_ne k1 k2
        have hx := (l[k]).isLt
        have hy := (m[k]).isLt
        generalize (l[k]).toNat = x at hd1 HS HNE hx
        generalize (m[k]).toNat = y at hd2 HS HNE hy
        have HK : Hid (k < n) := hlt
        clear hc1 hc2 k1 k2
        by_cases hxy : x = y
        · have hxy2 := HS.out hxy
          subst hxy
          have HXY := Lib.hid hxy2
          clear hxy2
          go_wp2
          go_region
          go_wp2
          go_roundw
          case rel => exact ⟨k + 1, HK.out, by go_num, HXY.out, HB.out.drew⟩
          case measure => have := HK.out; simp [intOf]; omega
        · have hne := HNE.out hxy
          have hi : ((x : Int) == (y : Int)) = false := by simp; omega
          have hi2 : ¬ (x : Int) = (y : Int) := by omega
          have HRR : Hid (r = false) := by show r = false; rw [← HR.out]; exact decide_eq_false hne
          clear hne hxy
          go_wp2
          go_region
          go_wp2
          go_ret
          exact ⟨congrArg (fun r => Ending.returned (Value.bool r)) HRR.out.symm, HB.out.drew⟩
      · obtain rfl : k = n := by omega
        have he : l = m := by
          have h := HEQ.out
          rw [List.take_of_length_le (by rw [HNN.out]; omega), List.take_of_length_le (by rw [HMN.out]; omega)] at h
          exact h
        have HRR : Hid (r = true) := by show r = true; rw [← HR.out]; exact decide_eq_true he
        clear he
        go_wp2
        go_ret
        exact ⟨congrArg (fun r => Ending.returned (Value.bool r)) HRR.out.symm, HB.out⟩
  · rw [show decide (l = m) = false from decide_eq_false (fun h => hlen (by rw [h]))]
    have hne : ¬ (l.length : Int) = (m.length : Int) := by omega
    clear hlen
    go_enter Tryd.func22, Tryd.ntmps22
    go_wp2
    all_goals first | (exfalso; omega) | skip
    go_ret
    exact ⟨rfl, Below.refl _ _⟩
end Go.Proofs.YtcnnijhfliahgaaDoor
